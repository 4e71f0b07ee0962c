/-
  The calls of package crc by the table, their results written out.
-/
import Derived.Test.YtcmagegcolcalabCz
namespace Go.Proofs.Ytcmagegcolcalab
open Go.RowKit

theorem more_ok (A : Option Addr) (n c B : Nat) (t : List Nat) (D : Option Addr) (m d B2 : Nat) (l : List UInt8) (r : Nat) (w : World) (ht : Rn w B A n c t) (hn : n = 256) (hl : Rb w B2 D m d l) (hm : m ≤ 1000000) (hr : r < 4294967296) (v : Nat) (hv : v = Cm.more t r l) :
    Calls Try.prog 12 #[.slice A n c, .int .u32 (r : Int), .slice D m d] w fun e w' => e = .returned (.tuple #[.int .u32 (v : Int), .int .i64 0]) ∧ w = w' :=
  (more_c A n c B t D m d B2 l r w ht (by omega) hl hm hr).mono fun e w' ⟨he, hw⟩ => ⟨by rw [he, numS_ok t _ (by rw [ht.len, hn]), hv]; rfl, hw⟩
theorem more_err (A : Option Addr) (n c B : Nat) (t : List Nat) (D : Option Addr) (m d B2 : Nat) (l : List UInt8) (r : Nat) (w : World) (ht : Rn w B A n c t) (hn : n ≤ 300) (hn2 : n ≠ 256) (hl : Rb w B2 D m d l) (hm : m ≤ 1000000) (hr : r < 4294967296) :
    Calls Try.prog 12 #[.slice A n c, .int .u32 (r : Int), .slice D m d] w fun e w' => e = .returned (.tuple #[.int .u32 0, .int .i64 1]) ∧ w = w' :=
  (more_c A n c B t D m d B2 l r w ht hn hl hm hr).mono fun e w' ⟨he, hw⟩ => ⟨by rw [he, numS_err t _ (by rw [ht.len]; exact hn2)]; rfl, hw⟩

/-- New bytes l, m of them, and the error x. -/
def RetL (w : World) (m x : Nat) (l : List UInt8) (e : Ending) (w' : World) : Prop :=
  ∃ A c, e = .returned (.tuple #[.slice A m c, .int .i64 (x : Int)]) ∧ (Own w' 5 w.heap.size A c l ∧ l.length = m) ∧ Below w.heap.size w w'
theorem RetE.lit {w w' : World} {p : List UInt8 × Nat} {e : Ending} {m x : Nat} {l : List UInt8} (h : RetE w.heap.size w p e w') (hp : p = (l, x)) (hl : l.length = m) : RetL w m x l e w' := by
  subst hp
  obtain ⟨A, c, he, ho, hb⟩ := h
  exact ⟨A, c, by rw [he, hl], ⟨ho, hl⟩, hb⟩

theorem seal_lit (A : Option Addr) (n c : Nat) (t : List Nat) (D : Option Addr) (m d : Nat) (l : List UInt8) (w : World) (ht : Rn w w.heap.size A n c t) (hn : n ≤ 300) (hl : Rb w w.heap.size D m d l) (hm : m ≤ 900000) (L : List UInt8) (k x : Nat) (hL : Cm.sealS t l = (L, x)) (hk : L.length = k) :
    Calls Try.prog 16 #[.slice A n c, .slice D m d] w (RetL w k x L) :=
  (seal_c A n c t D m d l w ht hn hl hm).mono fun _ _ h => h.lit hL hk
theorem open_lit (A : Option Addr) (n c : Nat) (t : List Nat) (D : Option Addr) (m d : Nat) (l : List UInt8) (w : World) (ht : Rn w w.heap.size A n c t) (hn : n ≤ 300) (hl : Rb w w.heap.size D m d l) (hm : m ≤ 900000) (L : List UInt8) (k x : Nat) (hL : Cm.openS t l = (L, x)) (hk : L.length = k) :
    Calls Try.prog 18 #[.slice A n c, .slice D m d] w (RetL w k x L) :=
  (open_c A n c t D m d l w ht hn hl hm).mono fun _ _ h => h.lit hL hk
theorem Own.rbl {w : World} {e : TypeId} {base c m : Nat} {A : Option Addr} {l : List UInt8} (h : Own w e base A c l ∧ l.length = m) : Rb w w.heap.size A m c l := rb_len h.1.rb h.2
end Go.Proofs.Ytcmagegcolcalab
