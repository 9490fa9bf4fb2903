/- Contracts of tower.MulX, Split and Join over the seat's translation. -/
import Derived.Test.YthfebbmmhjkglaaTwBl
namespace Go.Proofs.Ythfebbmmhjkglaa
open Go.RowKit
open Tw (px)

theorem of_ret (l : Int) (ah al : Nat) (h2 : al < 2 ^ 64) : Ret 55 #[.int .i64 l, .agg #[.int .u64 (ah : Int), .int .u64 (al : Int)]] (.bool (ofB l ah al)) := fun W => of_any l ah al (by omega) (by omega) W

end Go.Proofs.Ythfebbmmhjkglaa
