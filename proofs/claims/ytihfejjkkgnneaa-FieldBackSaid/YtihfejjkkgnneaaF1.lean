/-
  field.escapes: the map of escape sequences; what a key finds in it.
-/
import Derived.Test.YtihfejjkkgnneaaBy
import Derived.Test.YtihfejjkkgnneaaTa
import Derived.Test.YtihfejjkkgnneaaFm
import Derived.Maps.OwnSet
import Derived.Maps.RangeWalk
namespace Go.Proofs.Ytihfejjkkgnneaa
open Go.RowKit Go.Maps

theorem key8 : Keyed Try.prog 5 := int_keyed Try.underlying5

/-- What the map of escape sequences reads as. -/
def esD : DataW Unit := ((((DataW.map []).put (.int .u8 9) (.lit (.int .u8 116))).put (.int .u8 10) (.lit (.int .u8 110))).put (.int .u8 92) (.lit (.int .u8 92)))
/-- Block b is the map of escape sequences. -/
def Mp (w : World) (b : Nat) : Prop := w.ownsMap Try.prog 5 (plainElem (H := Unit) Try.prog 5) b 3 esD
theorem Mp.lt {w : World} {b : Nat} (h : Mp w b) : b < w.heap.size := World.ownsMap.lt h
theorem Mp.below {w w' : World} {b B : Nat} (h : Mp w b) (hb : Below B w w') (hB : b < B) : Mp w' b := by
  obtain ⟨es, clock, hx, F, hs, hD⟩ := h
  exact ⟨es, clock, (hb.block b hB).trans hx, F, hs, hD⟩
theorem Mp.drewN {w : World} {b : Nat} (h : Mp w b) (k : Nat) : Mp (w.drewN k) b := h

set_option maxRecDepth 100000 in
theorem escapes_c (w : World) : Calls Try.prog 40 #[] w fun e w' => e = .returned (.map (some w.heap.size)) ∧ Mp w' w.heap.size ∧ Below w.heap.size w w' := by
  have hmm := @run_makeMap Try.prog
  have h0 := World.ownsMap_made w Try.prog 5 (plainElem (H := Unit) Try.prog 5)
  have b0 : Below w.heap.size w (w.alloc (.map #[] 0)) := (Below.refl _ _).alloc (Nat.le_refl _) _
  obtain ⟨w1, r1, h1, g1⟩ := h0.update (t := 67) (e := 5) key8 Try.underlying67 (by simp [maxLen]) (key := .int .u8 9) (val := .int .u8 116) (keyOf_int_mk Try.underlying5 (by decide)) (plainElem_int Try.underlying5 (by decide))
  have b1 := b0.grown g1 b0.size (fun k hk => by injection hk with e; omega)
  obtain ⟨w2, r2, h2, g2⟩ := h1.update (t := 67) (e := 5) key8 Try.underlying67 (by simp [maxLen]) (key := .int .u8 10) (val := .int .u8 110) (keyOf_int_mk Try.underlying5 (by decide)) (plainElem_int Try.underlying5 (by decide))
  have b2 := b1.grown g2 b1.size (fun k hk => by injection hk with e; omega)
  obtain ⟨w3, r3, h3, g3⟩ := h2.update (t := 67) (e := 5) key8 Try.underlying67 (by simp [maxLen]) (key := .int .u8 92) (val := .int .u8 92) (keyOf_int_mk Try.underlying5 (by decide)) (plainElem_int Try.underlying5 (by decide))
  have b3 := b2.grown g3 b2.size (fun k hk => by injection hk with e; omega)
  have H3 := Lib.hid h3
  clear h0 h1 h2 h3 g1 g2 g3 b0 b1 b2
  go_enter Try.func40, Try.ntmps40
  go_wp2
  go_ret
  exact ⟨rfl, H3.out, b3⟩

/-- The letter that stands for a byte. -/
def letter (x : UInt8) : Option UInt8 := if x = 9 then some 116 else if x = 10 then some 110 else if x = 92 then some 92 else none

theorem u8_int (x c : UInt8) (h : x ≠ c) : (Lit.int .u8 (x.toNat : Int)) ≠ .int .u8 (c.toNat : Int) := by
  intro e
  simp only [Lit.int.injEq, true_and] at e
  exact h (UInt8.toNat_inj.1 (by omega))
theorem u8_wf (x : UInt8) : (Lit.int .u8 (x.toNat : Int)).wf = true := by
  have := x.toNat_lt
  have h1 : (0 : Int) ≤ (x.toNat : Int) := by omega
  have h2 : (x.toNat : Int) ≤ 255 := by omega
  simp [Lit.wf]
  exact ⟨h1, h2⟩
theorem esD_at (x : UInt8) : esD.atKey (.int .u8 (x.toNat : Int)) (.lit (.int .u8 0)) = .lit (.int .u8 (((letter x).getD 0).toNat : Int)) := by
  unfold letter
  split
  · subst x; rfl
  · split
    · subst x; rfl
    · split
      · subst x; rfl
      · rename_i h1 h2 h3
        unfold esD
        rw [atKey_put_other (show Lit.int .u8 (x.toNat : Int) ≠ .int .u8 92 from u8_int x 92 h3), atKey_put_other (show Lit.int .u8 (x.toNat : Int) ≠ .int .u8 10 from u8_int x 10 h2), atKey_put_other (show Lit.int .u8 (x.toNat : Int) ≠ .int .u8 9 from u8_int x 9 h1)]
        rfl
theorem esD_has (x : UInt8) : Maps.has esD (.int .u8 (x.toNat : Int)) = (letter x).isSome := by
  unfold letter
  split
  · subst x; rfl
  · split
    · subst x; rfl
    · split
      · subst x; rfl
      · rename_i h1 h2 h3
        unfold esD
        rw [has_put_other (show Lit.int .u8 (x.toNat : Int) ≠ .int .u8 92 from u8_int x 92 h3), has_put_other (show Lit.int .u8 (x.toNat : Int) ≠ .int .u8 10 from u8_int x 10 h2), has_put_other (show Lit.int .u8 (x.toNat : Int) ≠ .int .u8 9 from u8_int x 9 h1)]
        rfl
/-- 'letter, ok := q[x]' -/
theorem Mp.look {w : World} {b : Nat} (h : Mp w b) (x : UInt8) :
    (Instr.lookup 67 (.map (some b)) (.int .u8 (x.toNat : Int)) true).run Try.prog w = .ok (.tuple #[.int .u8 (((letter x).getD 0).toNat : Int), .bool (letter x).isSome]) w := by
  obtain ⟨v, ps, hrun, hv⟩ := World.ownsMap.look_ok h (t := 67) key8 Try.underlying67 (z := .int .u8 0) (by kernel_rfl) (plainElem_int Try.underlying5 (by decide)) (keyOf_int_mk Try.underlying5 (u8_wf x))
  obtain ⟨c, rfl, hc, _⟩ := plainElem_int_inv Try.underlying5 hv
  simp only [Prod.mk.injEq] at hc
  rw [esD_at x] at hc
  simp only [DataW.lit.injEq, Lit.int.injEq, true_and] at hc
  rw [hrun, esD_has, hc.1]
theorem Mp.look_some {w : World} {b : Nat} (h : Mp w b) (x c : UInt8) (hx : letter x = some c) :
    (Instr.lookup 67 (.map (some b)) (.int .u8 (x.toNat : Int)) true).run Try.prog w = .ok (.tuple #[.int .u8 (c.toNat : Int), .bool true]) w := by
  rw [h.look x, hx]; rfl
theorem Mp.look_none {w : World} {b : Nat} (h : Mp w b) (x : UInt8) (hx : letter x = none) :
    (Instr.lookup 67 (.map (some b)) (.int .u8 (x.toNat : Int)) true).run Try.prog w = .ok (.tuple #[.int .u8 0, .bool false]) w := by
  rw [h.look x, hx]; rfl
end Go.Proofs.Ytihfejjkkgnneaa
