/- Contracts of octet.isLevel and octet.Of over the seat's translation. -/
import Derived.Test.YtjllijoiakccpaaProg
import Derived.WalkKit
import Derived.WalkLawsBesides
import Derived.WalkSpells
import Derived.Deep.QuietTactic
import Derived.BigQuiet
import Derived.Handy
import Derived.Test.YtjllijoiakccpaaOctNum
namespace Go.Proofs.Ytjllijoiakccpaa
open Go.RowKit

/-- Is there such a level? -/
def levelB (l : Int) : Bool := decide (0 ≤ l) && decide (l ≤ 7)
theorem level_cases (l : Int) (h : levelB l = true) : l = 0 ∨ l = 1 ∨ l = 2 ∨ l = 3 ∨ l = 4 ∨ l = 5 ∨ l = 6 ∨ l = 7 := by
  simp [levelB] at h; omega

/-- Is an element of a level? -/
def ofB (l hi lo : Int) : Bool := levelB l && (decide (l = 7) || (decide (hi = 0) && decide (lo < 2 ^ (2 ^ l.toNat))))

theorem ret_bool {a b : Bool} (h : a = b) : Ending.returned (.bool a) = .returned (.bool b) := by rw [h]

end Go.Proofs.Ytjllijoiakccpaa

/- Contracts of octet's writing leaves over the seat's translation: isLevel, Wide. -/
namespace Go.Proofs.Ytjllijoiakccpaa
open Go.RowKit

/-- How many bytes an element of a level has. -/
def wideI (l : Int) : Int := if l = 0 ∨ l = 1 ∨ l = 2 ∨ l = 3 then 1 else if l = 4 then 2 else if l = 5 then 4 else if l = 6 then 8 else if l = 7 then 16 else 0
end Go.Proofs.Ytjllijoiakccpaa

/- Of, for layer 1's texts: it lies in OctOf. -/

/- Contract of octet.lowFirst over the seat's translation: the sixteen bytes of an element. -/
namespace Go.Proofs.Ytjllijoiakccpaa
open Go.RowKit
/-- All bytes of an element, the lowest first, as numbers. -/
def lowL (hi lo : Int) : List Int := [lo % 256, lo / 256 % 256, lo / 65536 % 256, lo / 16777216 % 256, lo / 4294967296 % 256, lo / 1099511627776 % 256, lo / 281474976710656 % 256, lo / 72057594037927936, hi % 256, hi / 256 % 256, hi / 65536 % 256, hi / 16777216 % 256, hi / 4294967296 % 256, hi / 1099511627776 % 256, hi / 281474976710656 % 256, hi / 72057594037927936]
end Go.Proofs.Ytjllijoiakccpaa
