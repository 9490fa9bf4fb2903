/- steeplelaw05.LinpolyNil gives true, whatever the input. -/
import Derived.Test.YtgnilfbnijoppaaLpN
import Derived.Test.YtgnilfbnijoppaaLpI
namespace Go.Proofs.Ytgnilfbnijoppaa
open Go.RowKit
/-- The law's walk: true, whatever the input. -/
theorem linnil_any (i : Int) (xh xl : Nat) (W : World) : Calls Try.prog 8 #[.int .i64 i, .agg #[.int .u64 (xh : Int), .int .u64 (xl : Int)]] W fun e w' => e = .returned (.bool true) ∧ Below W.heap.size W w' := linnil_core i xh xl awake5 W
end Go.Proofs.Ytgnilfbnijoppaa
