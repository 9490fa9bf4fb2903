/- Contract of steepleref02.Dot over the seat's translation: the walk. -/
import Derived.Test.YtcnbaoijgfaljaaSlB
namespace Go.Proofs.Ytcnbaoijgfaljaa
open Go.RowKit

end Go.Proofs.Ytcnbaoijgfaljaa
