/- An argument that is a slice of slices of elements, opened: its rows, and where they and their elements lie. -/
import Derived.Test.YtflkchhdgiojgaaDoorRowS
import Derived.Test.YtflkchhdgiojgaaDoorWvM
import Derived.Deep.Slices
namespace Go.Proofs.YtflkchhdgiojgaaDoor
open Go.ChangeShapes Go.WideShapes Go.ChangeAt Go.RowKit Go.Joins
variable {H : Type} {enc : TypeId × Value → H} {w : World} {base : Nat} {spare : Nat → Bool} {held : Bool}

def sliceOf : Value → Option Addr × Nat × Nat
  | .slice a l c => (a, l, c)
  | _ => (none, 0, 0)
/-- Rows of elements. -/
theorem open_grid {a : Option Addr} {len cap : Nat} {d : DataW H} {p : List MemPlace} (h : DataW.Trod enc Tryd.prog w base spare held 24 (.slice a len cap) d p) :
    ∃ ls : List (Option Addr × Nat × Nat), ls.length = len ∧ Grid w a ls ∧ ∀ i, i < ls.length → ∃ es : List (Nat × Nat), es.length = (ls.getD i (none, 0, 0)).2.1 ∧ ltE es ∧ ERow w (ls.getD i (none, 0, 0)).1 es := by
  obtain ⟨fuel, hf⟩ := h
  rcases Go.Deep.open_slice1 Tryd.underlying24 (by kernel_rfl) hf with ⟨hcs, _⟩ | ⟨x, l, c, m, n, V, D, Pl, hcs, _, hl, hm, hmm, _, hcell⟩
  · simp [Value.cells] at hcs
    obtain ⟨rfl, rfl, rfl⟩ := hcs
    exact ⟨[], rfl, ⟨fun i hi => by simp at hi⟩, fun i hi => by simp at hi⟩
  · simp [Value.cells] at hcs
    obtain ⟨rfl, rfl, rfl⟩ := hcs
    have hle : len ≤ m := by rw [hmm]; split <;> omega
    have hV : ∀ i, i < len → ∃ a' l' c', V i = .slice a' l' c' := fun i hi => by
      rcases Go.Deep.open_slice Tryd.underlying25 (hcell i (by omega)).2 with ⟨e, _⟩ | ⟨a', l', c', _, _, _, _, e, _⟩
      · exact ⟨none, 0, 0, by simpa using e⟩
      · exact ⟨some a', l', c', by simpa using e⟩
    have hg : ∀ i, i < len → ((List.range len).map fun i => sliceOf (V i)).getD i (none, 0, 0) = sliceOf (V i) := fun i hi => by simp [List.getD, hi]
    refine ⟨(List.range len).map fun i => sliceOf (V i), by simp, ⟨fun i hi => ?_⟩, fun i hi => ?_⟩
    · have hi' : i < len := by simpa using hi
      obtain ⟨c0, t0⟩ := hcell i (by omega)
      obtain ⟨a', l', c', e⟩ := hV i hi'
      obtain ⟨b, off, spot⟩ := x
      have hspot : spot = none := by simpa [Addr.add] using World.cell?_spot (hcell 0 (by omega)).1
      subst hspot
      have ea : (⟨b, off, none⟩ : Addr).add i = ⟨b, off + i, none⟩ := by unfold Addr.add; split <;> simp_all
      rw [ea] at c0
      rw [hg i hi', e]
      refine ⟨b, off, rfl, ?_, ?_⟩
      · rcases Nat.lt_or_ge b w.heap.size with h2 | h2
        · exact h2
        · simp [World.cell?, Array.getElem?_eq_none h2] at c0
      · rw [c0, e]; rfl
    · have hi' : i < len := by simpa using hi
      obtain ⟨c0, t0⟩ := hcell i (by omega)
      obtain ⟨a', l', c', e⟩ := hV i hi'
      rw [e] at t0
      rw [hg i hi', e]
      obtain ⟨es, h1, _, h2, h3⟩ := open_elems (w := w) (enc := enc) (base := base) (spare := spare) (held := held) (a := a') (len := l') (cap := c') (d := D i) (p := Pl i) ⟨n, t0⟩
      exact ⟨es, h1, h2, h3⟩
end Go.Proofs.YtflkchhdgiojgaaDoor
