/- An argument that is a slice of bools, opened: a list of bools, and where they lie. -/
import Derived.Test.YtjdfbjdbfncofaaPRowE
import Derived.Test.YtjdfbjdbfncofaaPWvP
import Derived.Deep.Slices
namespace Go.Proofs.Ytjdfbjdbfncofaa
open Go.ChangeShapes Go.WideShapes Go.ChangeAt Go.RowKit Go.Joins
variable {H : Type} {enc : TypeId × Value → H} {w : World} {base : Nat} {spare : Nat → Bool} {held : Bool}

def boolOf : Value → Bool
  | .bool b => b
  | _ => false
/-- A slice of bools. -/
theorem open_bools {a : Option Addr} {len cap : Nat} {d : DataW H} {p : List MemPlace} (h : DataW.Trod enc Try.prog w base spare held 35 (.slice a len cap) d p) :
    ∃ bs : List Bool, bs.length = len ∧ BRow w a bs := by
  obtain ⟨fuel, hf⟩ := h
  rcases Go.Deep.open_slice1 Try.underlying35 (by kernel_rfl) hf with ⟨hcs, _⟩ | ⟨x, l, c, m, n, V, D, Pl, hcs, _, hl, hm, hmm, _, hcell⟩
  · simp [Value.cells] at hcs
    obtain ⟨rfl, rfl, rfl⟩ := hcs
    exact ⟨[], rfl, ⟨fun i hi => by simp at hi⟩⟩
  · simp [Value.cells] at hcs
    obtain ⟨rfl, rfl, rfl⟩ := hcs
    have hle : len ≤ m := by rw [hmm]; split <;> omega
    refine ⟨(List.range len).map fun i => boolOf (V i), by simp, ⟨fun i hi => ?_⟩⟩
    have hi' : i < len := by simpa using hi
    obtain ⟨c0, t0⟩ := hcell i (by omega)
    obtain ⟨b0, e0, _⟩ := DataW.trod_bool Try.underlying4 t0
    simp at e0
    obtain ⟨b, off, spot⟩ := x
    have hspot : spot = none := by simpa [Addr.add] using World.cell?_spot (hcell 0 (by omega)).1
    subst hspot
    have ea : (⟨b, off, none⟩ : Addr).add i = ⟨b, off + i, none⟩ := by unfold Addr.add; split <;> simp_all
    rw [ea] at c0
    have eg : ((List.range len).map fun i => boolOf (V i)).getD i false = b0 := by simp [List.getD, hi', e0, boolOf]
    refine ⟨b, off, rfl, ?_, ?_⟩
    · rcases Nat.lt_or_ge b w.heap.size with h2 | h2
      · exact h2
      · simp [World.cell?, Array.getElem?_eq_none h2] at c0
    · rw [eg, c0, e0]
end Go.Proofs.Ytjdfbjdbfncofaa
