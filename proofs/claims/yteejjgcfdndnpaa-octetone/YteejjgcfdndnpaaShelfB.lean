/- The library's own contracts of math/bits Len64 and Len, laid at the seat's translation in plain words. -/
import Derived.Shelf.Small.Bits
import Derived.Shelf.Strconv.Itoa0
import Derived.Test.YteejjgcfdndnpaaProg
namespace Go.Proofs.Yteejjgcfdndnpaa
open Go.Shelf
end Go.Proofs.Yteejjgcfdndnpaa
