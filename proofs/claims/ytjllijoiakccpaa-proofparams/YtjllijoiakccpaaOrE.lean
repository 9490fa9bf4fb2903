/- The contract of (*octet.Reader).Elems over the seat's translation. -/
import Derived.Test.YtjllijoiakccpaaOrD
namespace Go.Proofs.Ytjllijoiakccpaa
open Go.RowKit

theorem own_step2 {w w' : World} {base : Nat} {T : TypeId} {v : Value} {n b : Nat} {xs : List Value} {s : ByteArray} {e : Int} (h : w.ownsRow base T 2 v n xs) (hb : b < base) (k : Step b s e w w') : w'.ownsRow base T 2 v n xs := by
  obtain ⟨h1, h2⟩ := h
  refine ⟨h1, ?_⟩
  rcases h2 with h3 | ⟨g, cap, cur, rfl, hg, hh, hrest⟩
  · exact .inl h3
  · have hl : g < w.heap.size := by
      rcases Nat.lt_or_ge g w.heap.size with h' | h'
      · exact h'
      · rw [Array.getElem?_eq_none h'] at hh; cases hh
    exact .inr ⟨g, cap, cur, rfl, hg, by rw [k.rest g hl (by omega)]; exact hh, hrest⟩
theorem flatE_end (es : List (Nat × Nat)) (r : Nat × Nat) : flat (es ++ [r]) = flat es ++ [.int .u64 (r.1 : Nat), .int .u64 (r.2 : Nat)] := by simp [flat]
/-- Elements, one behind the other, until one fails. -/
def rdElms (l : Int) : Nat → ByteArray → List (Nat × Nat) → ByteArray × Int × Option (List (Nat × Nat))
  | 0, s, acc => (s, 0, some acc)
  | n + 1, s, acc => if (rdElem s 0 l).2.1 = 0 then rdElms l n (rdElem s 0 l).1 (acc ++ [(rdElem s 0 l).2.2]) else ((rdElem s 0 l).1, (rdElem s 0 l).2.1, none)
/-- What 'Elems' makes of a reader: what is left, the error, the elements. -/
def rdElems (s : ByteArray) (e l m : Int) : ByteArray × Int × Option (List (Nat × Nat)) :=
  if (rdHas s e l).2.2 = true then (if (rdNum s e m).2.1 = 0 then rdElms l (rdNum s e m).2.2.toNat (rdNum s e m).1 [] else ((rdNum s e m).1, (rdNum s e m).2.1, some [])) else ((rdHas s e l).1, (rdHas s e l).2.1, none)
/-- A slice of elements, or none. -/
def ElS (w : World) (v : Value) : Option (List (Nat × Nat)) → Prop
  | none => v = .slice none 0 0
  | some es => ∃ a cap, v = .slice a es.length cap ∧ ERow w a es
end Go.Proofs.Ytjllijoiakccpaa
