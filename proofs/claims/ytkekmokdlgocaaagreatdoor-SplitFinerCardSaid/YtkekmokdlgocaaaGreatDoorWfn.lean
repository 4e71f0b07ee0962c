/-
 The law's walk, over what split's functions come to.
-/
import Derived.Test.YtkekmokdlgocaaaGreatDoorJW42
set_option maxRecDepth 100000
set_option maxHeartbeats 4000000
namespace Go.Proofs.YtkekmokdlgocaaaGreatDoor
open Go.RowKit Pl
theorem splitFiner_walk (f k : Int) (A : Option Addr) (n c : Nat) (l : List UInt8) (E : Option Addr) (m d : Nat) (cs : List Int) (E2 : Option Addr) (m2 d2 : Nat) (ms : List Int) (w : World) (_ : I64 f) (_ : I64 k) (hr : Rb w w.heap.size A n c l) (hc : Rc 1 w w.heap.size E m d (cs.map fun x => Value.int .i64 x)) (hc2 : Rc 1 w w.heap.size E2 m2 d2 (ms.map fun x => Value.int .i64 x)) (hx : Sq.Mx w) :
  Calls Tryz.prog 7 #[flv f k A n c, .slice E m d, .slice E2 m2 d2] w fun e w' => e = .returned (.bool true) ∧ Below w.heap.size w w' := splitFiner_walk' spl spn f k A n c l E m d cs E2 m2 d2 ms w hr hc hc2 hx
end Go.Proofs.YtkekmokdlgocaaaGreatDoor
