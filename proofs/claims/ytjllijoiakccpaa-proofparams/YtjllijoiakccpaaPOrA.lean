/- A list of texts in memory. -/
import Derived.Test.YtjllijoiakccpaaProg
import Derived.WalkKit
import Derived.WalkLawsBesides
import Derived.WalkSpells
import Derived.Handy
import Derived.Test.YtjllijoiakccpaaOctF
import Derived.Test.YtjllijoiakccpaaPOctC
namespace Go.Proofs.Ytjllijoiakccpaa
open Go.RowKit

/-- A list of texts in memory. -/
def StrRow (w : World) (a : Option Addr) (ss : List ByteArray) : Prop :=
  ss = [] ∨ ∃ b off, a = some ⟨b, off, none⟩ ∧ b < w.heap.size ∧ ∀ i, i < ss.length → w.cell? ⟨b, off + i, none⟩ = some (.string (ss.getD i ByteArray.empty))
theorem take_snoc' (ss : List ByteArray) (k : Nat) (h : k < ss.length) : ss.take (k + 1) = ss.take k ++ [ss.getD k ByteArray.empty] := by
  rw [List.take_succ_eq_append_getElem h]; simp [h]
end Go.Proofs.Ytjllijoiakccpaa

/- Contracts of (*octet.Reader).Text, hasLevel and List over the seat's translation. -/
namespace Go.Proofs.Ytjllijoiakccpaa
open Go.RowKit

theorem hidR {p : Prop} (h : p) : Hid p := h
theorem rdNum_pos (s : ByteArray) (e m : Int) : 0 ≤ (rdNum s e m).2.2 ∧ (rdNum s e m).2.2 ≤ 2147483647 := by
  unfold rdNum
  split
  · split
    · exact ⟨Int.le_refl _, by decide⟩
    · split
      · exact ⟨Int.le_refl _, by decide⟩
      · rename_i h
        have := (val4_range s).1
        exact ⟨this, by dsimp only; omega⟩
  · exact ⟨Int.le_refl _, by show (0 : Int) ≤ 2147483647; decide⟩
/-- What 'Text' makes of a reader: what is left, the error, the text. -/
def rdText (s : ByteArray) (e m : Int) : ByteArray × Int × ByteArray :=
  ((rdTake (rdNum s e m).1 (rdNum s e m).2.1 (rdNum s e m).2.2).1, (rdTake (rdNum s e m).1 (rdNum s e m).2.1 (rdNum s e m).2.2).2.1, (rdTake (rdNum s e m).1 (rdNum s e m).2.1 (rdNum s e m).2.2).2.2.1)
/-- What 'hasLevel' makes of a reader. -/
def rdHas (s : ByteArray) (e l : Int) : ByteArray × Int × Bool := if e = 0 then (if levelB l = true then (s, 0, true) else (⟨#[]⟩, 1, false)) else (s, e, false)
end Go.Proofs.Ytjllijoiakccpaa
