import Derived.Test.YtkekmokdlgocaaaGreatDoorJW2
import Derived.Lib.SlBytesConst
set_option maxRecDepth 100000
set_option maxHeartbeats 4000000
namespace Go.Proofs.YtkekmokdlgocaaaGreatDoor
open Go.RowKit
theorem Rb.lit (w : World) (e : TypeId) (fz : Nat × Nat) (cs : Array Value) (l : List UInt8) (n : Nat) (h : cs.toList = bvs l) (hn : l.length = n) (hl : n ≤ 1000000) : Rb (w.alloc (.cells cs e fz)) (w.heap.size + 1) (some ⟨w.heap.size, 0,none⟩) n n l := by
 refine ⟨hn, Nat.le_refl _, by simp only [maxLen]; omega, fun _ => ⟨_, _, rfl, by omega, fun j x hx => ?_⟩⟩
 rw [cell_of_row (w.alloc (.cells cs e fz)) w.heap.size (0 + j) cs e fz (by show (w.heap.push _)[w.heap.size]? = _; simp), Nat.zero_add, ← Array.getElem?_toList, h]
 simp [bvs, hx]
def RetL (w : World) (m x : Nat) (l : List UInt8) (e : Ending) (w' : World) : Prop :=
 ∃ A c, e = .returned (.tuple #[.slice A m c, .int .i64 (x : Int)]) ∧ (Own w' 5 w.heap.size A c l ∧ l.length = m) ∧ Below w.heap.size w w'
theorem RetE.lit {w w' : World} {p : List UInt8 × Nat} {e : Ending} {m x : Nat} {l : List UInt8} (h : RetE w.heap.size w p e w') (hp : p = (l, x)) (hl : l.length = m) : RetL w m x l e w' := by
 subst hp
 obtain ⟨A, c, he, ho, hb⟩ := h
 exact ⟨A, c, by rw [he, hl], ⟨ho, hl⟩, hb⟩
theorem open_lit (A : Option Addr) (n c : Nat) (t : List Nat) (D : Option Addr) (m d : Nat) (l : List UInt8) (w : World) (ht : Rn w w.heap.size A n c t) (hn : n ≤ 300) (hl : Rb w w.heap.size D m d l) (hm : m ≤ 900000) (L : List UInt8) (k x : Nat) (hL : Cm.openS t l = (L, x)) (hk : L.length = k) :
  Calls Tryz.prog 143 #[.slice A n c, .slice D m d] w (RetL w k x L) :=
 (open_c A n c t D m d l w ht hn hl hm).mono fun _ _ h => h.lit hL hk
theorem Own.rbl {w : World} {e : TypeId} {base c m : Nat} {A : Option Addr} {l : List UInt8} (h : Own w e base A c l ∧ l.length = m) : Rb w w.heap.size A m c l := rb_len h.1.rb h.2
end Go.Proofs.YtkekmokdlgocaaaGreatDoor
