/-
 The law's walk, over what split's functions come to.
-/
import Derived.Test.YtkekmokdlgocaaaGreatDoorJW41
set_option maxRecDepth 100000
set_option maxHeartbeats 4000000
namespace Go.Proofs.YtkekmokdlgocaaaGreatDoor
open Go.RowKit Pl
theorem splitReads_walk (f k : Int) (A : Option Addr) (n c : Nat) (l : List UInt8) (E : Option Addr) (m d : Nat) (L : List Int) (D : Option Addr) (q r : Nat) (I : List Bool) (g : Int) (i : Int) (w : World) (_ : I64 f) (_ : I64 k) (hr : Rb w w.heap.size A n c l) (hc : Rc 1 w w.heap.size E m d (L.map fun x => Value.int .i64 x)) (hd : Rc 1 w w.heap.size D q r (lvb I)) (_ : I64 g) (hi : I64 i) (hx : Sq.Mx w) :
  Calls Tryz.prog 3 #[flv f k A n c, plv E m d D q r g, .int .i64 i] w fun e w' => e = .returned (.bool true) ∧ Below w.heap.size w w' := splitReads_walk' spl f k A n c l E m d L D q r I g i w hi hr hc hd hx
end Go.Proofs.YtkekmokdlgocaaaGreatDoor
