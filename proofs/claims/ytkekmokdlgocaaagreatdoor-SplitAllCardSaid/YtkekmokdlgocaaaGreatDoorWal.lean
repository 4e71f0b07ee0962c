/-
 The law's walk, over what split's functions come to.
-/
import Derived.Test.YtkekmokdlgocaaaGreatDoorJW41
set_option maxRecDepth 100000
set_option maxHeartbeats 4000000
namespace Go.Proofs.YtkekmokdlgocaaaGreatDoor
open Go.RowKit Pl
theorem splitAll_walk (f k : Int) (A : Option Addr) (n c : Nat) (l : List UInt8) (w : World) (hf : I64 f) (hk : I64 k) (hr : Rb w w.heap.size A n c l) (hx : Sq.Mx w) :
  Calls Tryz.prog 4 #[flv f k A n c] w fun e w' => e = .returned (.bool true) ∧ Below w.heap.size w w' := splitAll_walk' spl f k A n c l w hf hk hr hx
end Go.Proofs.YtkekmokdlgocaaaGreatDoor
