/- Contracts of steepleref02.Mul and X over the seat's translation. -/
import Derived.Test.YtfepgoddoohpbaaRfE
import Derived.Test.YtfepgoddoohpbaaTwMx
namespace Go.Proofs.Ytfepgoddoohpbaa
open Go.RowKit
open Tw (pm)

/-- Two elements and a room, as Mul lays them. -/
structure Mst (W w : World) (ah al bh bl : Nat) : Prop where
  a : Ew w W.heap.size ah al
  b : Ew w (W.heap.size + 1) bh bl
  r : Ew w (W.heap.size + 1 + 1) 0 0
  d : Below W.heap.size W w
theorem Mst.below {W w w' : World} {ah al bh bl : Nat} (h : Mst W w ah al bh bl) (hb : Below w.heap.size w w') : Mst W w' ah al bh bl :=
  ⟨h.a.below hb, h.b.below hb, h.r.below hb, h.d.trans (hb.mono h.d.size)⟩
end Go.Proofs.Ytfepgoddoohpbaa
