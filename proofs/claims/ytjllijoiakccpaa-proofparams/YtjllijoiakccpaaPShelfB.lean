/- Contract of tower.scaled over the seat's translation: a word times an element of a level up to 6. -/
import Derived.Test.YtjllijoiakccpaaTwC
import Derived.Test.YtjllijoiakccpaaTwD
import Derived.Shelf.Small.Bits
import Derived.Shelf.Strconv.Itoa0
import Derived.Test.YtjllijoiakccpaaProg
namespace Go.Proofs.Ytjllijoiakccpaa
open Go.RowKit
open Tw (px)

/-- How many elements a level has, as a bound. -/
def lim (l : Int) : Nat := if l = 0 then 2 else if l = 1 then 4 else if l = 2 then 16 else if l = 3 then 256 else if l = 4 then 65536 else if l = 5 then 4294967296 else if l = 6 then 18446744073709551616 else 0

theorem lim_le (l : Int) : lim l ≤ 2 ^ 64 := by
  unfold lim; repeat' split
  all_goals decide
end Go.Proofs.Ytjllijoiakccpaa

/- The library's own contracts of math/bits Len64 and Len, laid at the seat's translation in plain words. -/
namespace Go.Proofs.Ytjllijoiakccpaa
open Go.Shelf
end Go.Proofs.Ytjllijoiakccpaa
