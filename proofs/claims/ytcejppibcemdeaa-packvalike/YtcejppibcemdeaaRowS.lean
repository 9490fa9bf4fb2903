/- An argument that is a slice of elements, opened: a list of pairs of words, and where they lie. -/
import Derived.Test.YtcejppibcemdeaaRowE
import Derived.Test.YtcejppibcemdeaaPWvD
import Derived.Deep.SlicePairs
namespace Go.Proofs.Ytcejppibcemdeaa
open Go.ChangeShapes Go.WideShapes Go.ChangeAt Go.RowKit Go.Joins
variable {H : Type} {enc : TypeId × Value → H} {w : World} {base : Nat} {spare : Nat → Bool} {held : Bool}

theorem word_val {n : Nat} {c : Value} {y : DataW H × List MemPlace} (h : DataW.trod enc Try.prog w base spare held n 22 [c] = some y) :
    c = .int .u64 (((intOf c).toNat : Nat) : Int) ∧ (intOf c).toNat < 2 ^ 64 := by
  obtain ⟨a, e0, _, w0⟩ := DataW.trod_int Try.underlying22 h
  obtain ⟨a', rfl, ha⟩ := word_nat w0
  simp at e0
  subst e0
  exact ⟨by simp [intOf], by simpa [intOf] using ha⟩
/-- A slice of elements. -/
theorem open_elems {a : Option Addr} {len cap : Nat} {d : DataW H} {p : List MemPlace} (h : DataW.Trod enc Try.prog w base spare held 25 (.slice a len cap) d p) :
    ∃ es : List (Nat × Nat), es.length = len ∧ len ≤ maxLen ∧ ltE es ∧ ERow w a es := by
  obtain ⟨fuel, hf⟩ := h
  rcases Go.Deep.open_slice_pairs Try.underlying25 Try.underlying24 (by kernel_rfl) rfl rfl (by kernel_rfl) (by kernel_rfl) hf with ⟨hcs, _⟩ | ⟨x, l, c, m, n, V0, V1, D0, D1, P0, P1, hcs, _, hl, hm, hmm, _, hcell⟩
  · simp [Value.cells] at hcs
    obtain ⟨rfl, rfl, rfl⟩ := hcs
    exact ⟨[], rfl, Nat.zero_le _, fun e he => by simp at he, ⟨fun i hi => by simp at hi⟩⟩
  · simp [Value.cells] at hcs
    obtain ⟨rfl, rfl, rfl⟩ := hcs
    have hle : len ≤ m := by rw [hmm]; split <;> omega
    have hget : ∀ i, i < len → ((List.range len).map fun i => ((intOf (V0 i)).toNat, (intOf (V1 i)).toNat)).getD i (0, 0) = ((intOf (V0 i)).toNat, (intOf (V1 i)).toNat) := fun i hi => by simp [List.getD, hi]
    refine ⟨(List.range len).map fun i => ((intOf (V0 i)).toNat, (intOf (V1 i)).toNat), by simp, by omega, ?_, ⟨fun i hi => ?_⟩⟩
    · intro e he
      obtain ⟨i, hi, rfl⟩ := List.mem_map.1 he
      have hi := List.mem_range.1 hi
      obtain ⟨_, _, t0, t1⟩ := hcell i (by omega)
      exact ⟨(word_val t0).2, (word_val t1).2⟩
    · have hi' : i < len := by simpa using hi
      obtain ⟨c0, c1, t0, t1⟩ := hcell i (by omega)
      obtain ⟨b, off, spot⟩ := x
      have hspot : spot = none := by simpa [Addr.add] using World.cell?_spot (hcell 0 (by omega)).1
      subst hspot
      have e0 : (⟨b, off, none⟩ : Addr).add (i * 2) = ⟨b, off + i * 2, none⟩ := by unfold Addr.add; split <;> simp_all
      have e1 : (⟨b, off, none⟩ : Addr).add (i * 2 + 1) = ⟨b, off + i * 2 + 1, none⟩ := by unfold Addr.add; split <;> simp_all [Nat.add_assoc]
      rw [e0] at c0
      rw [e1] at c1
      rw [hget i hi']
      refine ⟨b, off, rfl, ?_, ?_, ?_⟩
      · rcases Nat.lt_or_ge b w.heap.size with h2 | h2
        · exact h2
        · simp [World.cell?, Array.getElem?_eq_none h2] at c0
      · rw [c0]; exact congrArg some (word_val t0).1
      · rw [c1]; exact congrArg some (word_val t1).1
/-- A slice that leads nowhere has nothing. -/
theorem open_none {a : Option Addr} {len cap : Nat} {d : DataW H} {p : List MemPlace} (h : DataW.Trod enc Try.prog w base spare held 25 (.slice a len cap) d p) : a = none → len = 0 ∧ cap = 0 := by
  obtain ⟨fuel, hf⟩ := h
  rcases Go.Deep.open_slice_pairs Try.underlying25 Try.underlying24 (by kernel_rfl) rfl rfl (by kernel_rfl) (by kernel_rfl) hf with ⟨hcs, _⟩ | ⟨x, l, c, m, n, V0, V1, D0, D1, P0, P1, hcs, _⟩
  · simp [Value.cells] at hcs
    exact fun _ => ⟨hcs.2.1, hcs.2.2⟩
  · simp [Value.cells] at hcs
    intro h
    rw [h] at hcs
    simp at hcs
theorem open_cap {a : Option Addr} {len cap : Nat} {d : DataW H} {p : List MemPlace} (h : DataW.Trod enc Try.prog w base spare held 25 (.slice a len cap) d p) : len ≤ cap := by
  obtain ⟨fuel, hf⟩ := h
  rcases Go.Deep.open_slice_pairs Try.underlying25 Try.underlying24 (by kernel_rfl) rfl rfl (by kernel_rfl) (by kernel_rfl) hf with ⟨hcs, _⟩ | ⟨x, l, c, m, n, V0, V1, D0, D1, P0, P1, hcs, _, hl, _⟩
  · simp [Value.cells] at hcs
    omega
  · simp [Value.cells] at hcs
    obtain ⟨_, rfl, rfl⟩ := hcs
    exact hl
end Go.Proofs.Ytcejppibcemdeaa
