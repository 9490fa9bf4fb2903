/- The contract of cube.last over the seat's translation. -/
import Derived.Test.YtkjgbkjhdmipoaaCbD
namespace Go.Proofs.Ytkjgbkjhdmipoaa
open Go.RowKit
open Cb
open Tw (pm)

end Go.Proofs.Ytkjgbkjhdmipoaa
