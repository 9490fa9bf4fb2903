/- The walk of tower.inverse over the seat's translation, one level. -/
import Derived.Test.YtflkchhdgiojgaaTwBl
namespace Go.Proofs.Ytflkchhdgiojgaa
open Go.RowKit

end Go.Proofs.Ytflkchhdgiojgaa
