/-
 The law's walk, over what split's functions come to.
-/
import Derived.Test.YtkekmokdlgocaaaGreatDoorJW41
set_option maxRecDepth 100000
set_option maxHeartbeats 4000000
namespace Go.Proofs.YtkekmokdlgocaaaGreatDoor
open Go.RowKit Pl
theorem splitBeyond_walk (f k : Int) (A : Option Addr) (n c : Nat) (l : List UInt8) (E : Option Addr) (m d : Nat) (cs : List Int) (w : World) (_ : I64 f) (_ : I64 k) (hr : Rb w w.heap.size A n c l) (hc : Rc 1 w w.heap.size E m d (cs.map fun x => Value.int .i64 x)) (hx : Sq.Mx w) :
  Calls Tryz.prog 6 #[flv f k A n c, .slice E m d] w fun e w' => e = .returned (.bool true) ∧ Below w.heap.size w w' := splitBeyond_walk' spl f k A n c l E m d cs w hr hc hx
end Go.Proofs.YtkekmokdlgocaaaGreatDoor
