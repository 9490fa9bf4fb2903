/- The walk of steeplelaw33.FrobThrough over the seat's translation. -/
import Derived.Test.YtjdfbjdbfncofaaPFrG
import Derived.Test.YtjdfbjdbfncofaaPFrM
namespace Go.Proofs.Ytjdfbjdbfncofaa
open Go.RowKit
open Cb
open Tw (pm)

open Fr
end Go.Proofs.Ytjdfbjdbfncofaa
