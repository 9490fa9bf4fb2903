/- Arguments that are a struct of two slices of elements, an array of two such slices, or an array of two ints, opened. -/
import Derived.Test.YtjdfbjdbfncofaaRowS
import Derived.Deep.Strs
import Derived.Deep.Slices
namespace Go.Proofs.Ytjdfbjdbfncofaa
open Go.ChangeShapes Go.WideShapes Go.ChangeAt Go.RowKit Go.Joins
variable {H : Type} {enc : TypeId × Value → H} {W : World}

theorem arrC2 {α : Type} {cs : Array α} (h : cs.size = 2) : ∃ c0 c1, cs = #[c0, c1] := by
  obtain ⟨l⟩ := cs
  match l, h with
  | [c0, c1], _ => exact ⟨c0, c1, rfl⟩
theorem elems_val {n : Nat} {c : Value} {y : DataW H × List MemPlace} (h : DataW.trod enc Try.prog W 0 (fun _ => true) true n 26 [c] = some y) :
    ∃ (a : Option Addr) (cap : Nat) (es : List (Nat × Nat)), c = .slice a es.length cap ∧ es.length ≤ maxLen ∧ ltE es ∧ ERow W a es ∧ (a = none → es.length = 0 ∧ cap = 0) ∧ es.length ≤ cap := by
  have hV : ∃ a' l' c', c = .slice a' l' c' := by
    rcases Go.Deep.open_slice Try.underlying26 h with ⟨e, _⟩ | ⟨a', l', c', _, _, _, _, e, _⟩
    · exact ⟨none, 0, 0, by simpa using e⟩
    · exact ⟨some a', l', c', by simpa using e⟩
  obtain ⟨a', l', c', rfl⟩ := hV
  have hT : DataW.Trod enc Try.prog W 0 (fun _ => true) true 26 (.slice a' l' c') y.1 y.2 := ⟨n, by simpa [Value.cells] using h⟩
  obtain ⟨es, rfl, h3, h4, h5⟩ := open_elems hT
  exact ⟨a', c', es, rfl, h3, h4, h5, open_none hT, open_cap hT⟩
end Go.Proofs.Ytjdfbjdbfncofaa
