/-
  Joined: P3.
-/
import Derived.Test.YtplkjljhpmldfaaJ6
import Derived.Test.YtplkjljhpmldfaaJ3
import Derived.Test.YtplkjljhpmldfaaJ1
import Derived.BigQuiet
import Derived.Laws.BitsAllLaws
/-
  press.four: four bytes as a number.
-/
namespace Go.Proofs.Ytplkjljhpmldfaa
open Go.RowKit

/-- Four bytes from i on as a number. -/
def f4 (l : List UInt8) (i : Nat) : Nat := (l.getD i 0).toNat + 256 * (l.getD (i + 1) 0).toNat + 65536 * (l.getD (i + 2) 0).toNat + 16777216 * (l.getD (i + 3) 0).toNat
theorem f4_lt (l : List UInt8) (i : Nat) : f4 l i < 4294967296 := by
  unfold f4
  have h0 := (l.getD i 0).toNat_lt; have h1 := (l.getD (i + 1) 0).toNat_lt; have h2 := (l.getD (i + 2) 0).toNat_lt; have h3 := (l.getD (i + 3) 0).toNat_lt
  omega
theorem getD_of {l : List UInt8} {i : Nat} {x : UInt8} (h : l[i]? = some x) : l.getD i 0 = x := by simp [List.getD, h]
theorem f4_same (l : List UInt8) (i j : Nat) (hi : i + 4 ≤ l.length) (hj : j + 4 ≤ l.length) : f4 l i = f4 l j ↔ ∀ k, k < 4 → l[i + k]? = l[j + k]? := by
  have e : ∀ k, k < l.length → l[k]? = some (l.getD k 0) := fun k hk => by simp [List.getD, List.getElem?_eq_getElem hk]
  constructor
  · intro h
    unfold f4 at h
    have h0 := (l.getD i 0).toNat_lt; have h1 := (l.getD (i + 1) 0).toNat_lt; have h2 := (l.getD (i + 2) 0).toNat_lt; have h3 := (l.getD (i + 3) 0).toNat_lt
    have g0 := (l.getD j 0).toNat_lt; have g1 := (l.getD (j + 1) 0).toNat_lt; have g2 := (l.getD (j + 2) 0).toNat_lt; have g3 := (l.getD (j + 3) 0).toNat_lt
    intro k hk
    rw [e (i + k) (by omega), e (j + k) (by omega)]
    congr 1
    apply UInt8.toNat_inj.1
    match k, hk with
    | 0, _ => show (l.getD i 0).toNat = (l.getD j 0).toNat; omega
    | 1, _ => omega
    | 2, _ => omega
    | 3, _ => omega
  · intro h
    have q : ∀ k, k < 4 → l.getD (i + k) 0 = l.getD (j + k) 0 := fun k hk => by
      have := h k hk
      rw [e (i + k) (by omega), e (j + k) (by omega)] at this
      exact Option.some.inj this
    unfold f4
    rw [q 1 (by omega), q 2 (by omega), q 3 (by omega)]
    have := q 0 (by omega)
    simp only [Nat.add_zero] at this
    rw [this]

theorem or32 (A B : Nat) (hA : A < 4294967296) (hB : B < 4294967296) : bits .or .u32 (A : Int) (B : Int) = ((A ||| B : Nat) : Int) := by
  exact u32_or_nat A B hA hB

theorem or_add (a b k : Nat) (h : a < 2 ^ k) : a ||| b * 2 ^ k = a + b * 2 ^ k := by
  have := Nat.shiftLeft_add_eq_or_of_lt h b
  rw [Nat.shiftLeft_eq] at this
  rw [Nat.or_comm, ← this, Nat.add_comm]
theorem ors (a b c d : Nat) (ha : a < 256) (hb : b < 256) (hc : c < 256) (hd : d < 256) :
    bits .or .u32 (bits .or .u32 (bits .or .u32 (a : Int) ((b : Int) * 256)) ((c : Int) * 65536)) ((d : Int) * 16777216) = ((a + 256 * b + 65536 * c + 16777216 * d : Nat) : Int) := by
  have e1 : ((b : Int) * 256) = ((b * 256 : Nat) : Int) := by omega
  have e2 : ((c : Int) * 65536) = ((c * 65536 : Nat) : Int) := by omega
  have e3 : ((d : Int) * 16777216) = ((d * 16777216 : Nat) : Int) := by omega
  rw [e1, e2, e3, or32 a (b * 256) (by omega) (by omega), or_add a b 8 (by omega)]
  have f1 : a + b * 2 ^ 8 < 65536 := by omega
  rw [or32 _ (c * 65536) (by omega) (by omega), or_add _ c 16 (by omega)]
  have f2 : a + b * 2 ^ 8 + c * 2 ^ 16 < 16777216 := by omega
  rw [or32 _ (d * 16777216) (by omega) (by omega), or_add _ d 24 (by omega)]
  omega

set_option maxRecDepth 100000 in
/-- press.four -/
theorem four_c (A : Option Addr) (n c B : Nat) (l : List UInt8) (i : Nat) (w : World) (hr : Rb w B A n c l) (hn : n ≤ 1000000) (hi : i + 4 ≤ n) :
    Calls Try.prog 87 #[.slice A n c, .int .i64 (i : Int)] w fun e w' => e = .returned (.int .u32 (f4 l i : Nat)) ∧ ∃ q, w' = w.drewN q := by
  have hl := hr.len
  obtain ⟨b, off, rfl, hb, hc⟩ := hr.2.2.2 (by omega)
  obtain ⟨x0, hx0⟩ : ∃ x, l[i]? = some x := ⟨_, List.getElem?_eq_getElem (by omega)⟩
  obtain ⟨x1, hx1⟩ : ∃ x, l[i + 1]? = some x := ⟨_, List.getElem?_eq_getElem (by omega)⟩
  obtain ⟨x2, hx2⟩ : ∃ x, l[i + 2]? = some x := ⟨_, List.getElem?_eq_getElem (by omega)⟩
  obtain ⟨x3, hx3⟩ : ∃ x, l[i + 3]? = some x := ⟨_, List.getElem?_eq_getElem (by omega)⟩
  have c0 := hc _ _ hx0; have c1 := hc _ _ hx1; have c2 := hc _ _ hx2; have c3 := hc _ _ hx3
  have hF : f4 l i = x0.toNat + 256 * x1.toNat + 65536 * x2.toNat + 16777216 * x3.toNat := by unfold f4; rw [getD_of hx0, getD_of hx1, getD_of hx2, getD_of hx3]
  have b0 := x0.toNat_lt; have b1 := x1.toNat_lt; have b2 := x2.toNat_lt; have b3 := x3.toNat_lt
  have p0 : (i : Int) < (n : Int) := by omega
  have p1 : (i : Int) + 1 < (n : Int) := by omega
  have p2 : (i : Int) + 2 < (n : Int) := by omega
  have p3 : (i : Int) + 3 < (n : Int) := by omega
  have e1 : ((i : Int) + 1).toNat = i + 1 := by omega
  have e2 : ((i : Int) + 2).toNat = i + 2 := by omega
  have e3 : ((i : Int) + 3).toNat = i + 3 := by omega
  have HF := Lib.hid hF
  clear hF hx0 hx1 hx2 hx3 hr hc hl
  go_enter Try.func87, Try.ntmps87
  go_wp2_with fail
  go_quiet (fail)
  go_wp2
  go_ret
  refine ⟨ret_int ?_, _, rfl⟩
  rw [HF.out]
  exact ors x0.toNat x1.toNat x2.toNat x3.toNat (by omega) (by omega) (by omega) (by omega)
end Go.Proofs.Ytplkjljhpmldfaa
