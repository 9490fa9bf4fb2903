/- The contract of cube.last over the seat's translation. -/
import Derived.Test.YthfebbmmhjkglaaCbD
namespace Go.Proofs.Ythfebbmmhjkglaa
open Go.RowKit
open Cb
open Tw (pm)

end Go.Proofs.Ythfebbmmhjkglaa
