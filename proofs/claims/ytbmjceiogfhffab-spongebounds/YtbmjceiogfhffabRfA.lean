/- Contracts of steepleref02.mask, timesWord and Times over the seat's translation. -/
import Derived.Test.YtbmjceiogfhffabTwBl
namespace Go.Proofs.Ytbmjceiogfhffab
open Go.RowKit
open Tw (px)

end Go.Proofs.Ytbmjceiogfhffab
