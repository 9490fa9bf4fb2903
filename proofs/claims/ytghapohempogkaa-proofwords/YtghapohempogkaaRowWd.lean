/- An argument that is columns of words, opened. -/
import Derived.Test.YtghapohempogkaaRowE
import Derived.Test.YtghapohempogkaaWdB
import Derived.Deep.Slices
import Derived.Deep.Strs
import Derived.Lib.SmallJoins
import Derived.OpenShut
import Derived.ShutString
import Derived.ChangeMaps5
namespace Go.Proofs.Ytghapohempogkaa
open Go.ChangeShapes Go.WideShapes Go.ChangeAt Go.RowKit Go.Joins
open Wd
variable {H : Type} {enc : TypeId × Value → H} {W : World}

theorem word_valW {n : Nat} {c : Value} {y : DataW H × List MemPlace} (h : DataW.trod enc Try.prog W 0 (fun _ => true) true n 39 [c] = some y) :
    c = .int .u64 (((intOf c).toNat : Nat) : Int) ∧ (intOf c).toNat < 2 ^ 64 := by
  obtain ⟨a, e0, _, w0⟩ := DataW.trod_int Try.underlying39 h
  obtain ⟨a', rfl, ha⟩ := word_nat w0
  simp at e0
  subst e0
  exact ⟨by simp [intOf], by simpa [intOf] using ha⟩
theorem pick_allW {α : Type} {n : Nat} {P : Nat → α → Prop} (z : α) (h : ∀ i, i < n → ∃ x, P i x) : ∃ F : Nat → α, ∀ i, i < n → P i (F i) :=
  ⟨fun i => if hi : i < n then Classical.choose (h i hi) else z, fun i hi => by have hs := Classical.choose_spec (h i hi); simpa [hi] using hs⟩
/-- Words. -/
theorem open_urow {a : Option Addr} {len cap : Nat} {d : DataW H} {p : List MemPlace} (h : DataW.Trod enc Try.prog W 0 (fun _ => true) true 24 (.slice a len cap) d p) :
    ∃ c : List Nat, c.length = len ∧ ltC c ∧ URow W a c := by
  obtain ⟨fuel, hf⟩ := h
  rcases Go.Deep.open_slice1 Try.underlying24 (by kernel_rfl) hf with ⟨hcs, _⟩ | ⟨x, l, c, m, n, V, D, Pl, hcs, _, hl, hm, hmm, _, hcell⟩
  · simp [Value.cells] at hcs
    obtain ⟨rfl, rfl, rfl⟩ := hcs
    exact ⟨[], rfl, fun t ht => by simp at ht, ⟨fun i hi => by simp at hi⟩⟩
  · simp [Value.cells] at hcs
    obtain ⟨rfl, rfl, rfl⟩ := hcs
    have hle : len ≤ m := by rw [hmm]; split <;> omega
    have hget : ∀ i, i < len → ((List.range len).map fun i => (intOf (V i)).toNat).getD i 0 = (intOf (V i)).toNat := fun i hi => by simp [List.getD, hi]
    refine ⟨(List.range len).map fun i => (intOf (V i)).toNat, by simp, fun x hx => ?_, ⟨fun i hi => ?_⟩⟩
    · obtain ⟨i, hi, rfl⟩ := List.mem_map.1 hx
      exact (word_valW (hcell i (by have := List.mem_range.1 hi; omega)).2).2
    · have hi' : i < len := by simpa using hi
      obtain ⟨c0, t0⟩ := hcell i (by omega)
      obtain ⟨b, off, spot⟩ := x
      have hspot : spot = none := by simpa [Addr.add] using World.cell?_spot (hcell 0 (by omega)).1
      subst hspot
      have ea : (⟨b, off, none⟩ : Addr).add i = ⟨b, off + i, none⟩ := by unfold Addr.add; split <;> simp_all
      rw [ea] at c0
      rw [hget i hi']
      refine ⟨b, off, rfl, ?_, ?_⟩
      · rcases Nat.lt_or_ge b W.heap.size with h2 | h2
        · exact h2
        · simp [World.cell?, Array.getElem?_eq_none h2] at c0
      · rw [c0]; exact congrArg some (word_valW t0).1
theorem urow_val {n : Nat} {c : Value} {y : DataW H × List MemPlace} (h : DataW.trod enc Try.prog W 0 (fun _ => true) true n 24 [c] = some y) :
    ∃ (a : Option Addr) (cap : Nat) (ws : List Nat), c = .slice a ws.length cap ∧ ltC ws ∧ URow W a ws := by
  have hV : ∃ a' l' c', c = .slice a' l' c' := by
    rcases Go.Deep.open_slice Try.underlying24 h with ⟨e, _⟩ | ⟨a', l', c', _, _, _, _, e, _⟩
    · exact ⟨none, 0, 0, by simpa using e⟩
    · exact ⟨some a', l', c', by simpa using e⟩
  obtain ⟨a', l', c', rfl⟩ := hV
  have hT : DataW.Trod enc Try.prog W 0 (fun _ => true) true 24 (.slice a' l' c') y.1 y.2 := ⟨n, by simpa [Value.cells] using h⟩
  obtain ⟨ws, rfl, h3, h4⟩ := open_urow hT
  exact ⟨a', c', ws, rfl, h3, h4⟩
/-- Columns of words. -/
theorem open_ucols {a : Option Addr} {len cap : Nat} {d : DataW H} {p : List MemPlace} (h : DataW.Trod enc Try.prog W 0 (fun _ => true) true 22 (.slice a len cap) d p) :
    ∃ cs : List (List Nat), cs.length = len ∧ (∀ c ∈ cs, ltC c) ∧ UCols W a cs := by
  obtain ⟨fuel, hf⟩ := h
  rcases Go.Deep.open_slice1 Try.underlying22 (by kernel_rfl) hf with ⟨hcs, _⟩ | ⟨x, l, c, m, n, V, D, Pl, hcs, _, hl, hm, hmm, _, hcell⟩
  · simp [Value.cells] at hcs
    obtain ⟨rfl, rfl, rfl⟩ := hcs
    exact ⟨[], rfl, fun t ht => by simp at ht, ⟨fun i hi => by simp at hi⟩⟩
  · simp [Value.cells] at hcs
    obtain ⟨rfl, rfl, rfl⟩ := hcs
    have hle : len ≤ m := by rw [hmm]; split <;> omega
    have hV : ∀ i, i < len → ∃ q : (Option Addr × Nat) × List Nat, V i = .slice q.1.1 q.2.length q.1.2 ∧ ltC q.2 ∧ URow W q.1.1 q.2 := fun i hi => by
      have ht := (hcell i (by omega)).2
      obtain ⟨a', cap', ws, e, h4, h5⟩ := urow_val (n := n) (c := V i) (y := (D i, Pl i)) ht
      exact ⟨((a', cap'), ws), e, h4, h5⟩
    obtain ⟨F, hF⟩ := pick_allW ((none, 0), []) hV
    have hg : ∀ i, i < len → ((List.range len).map fun i => (F i).2).getD i [] = (F i).2 := fun i hi => by simp [List.getD, hi]
    refine ⟨(List.range len).map fun i => (F i).2, by simp, fun t ht => ?_, ⟨fun i hi => ?_⟩⟩
    · obtain ⟨i, hi, rfl⟩ := List.mem_map.1 ht
      exact (hF i (List.mem_range.1 hi)).2.1
    · have hi' : i < len := by simpa using hi
      obtain ⟨c0, t0⟩ := hcell i (by omega)
      obtain ⟨e, _, h5⟩ := hF i hi'
      obtain ⟨b, off, spot⟩ := x
      have hspot : spot = none := by simpa [Addr.add] using World.cell?_spot (hcell 0 (by omega)).1
      subst hspot
      have ea : (⟨b, off, none⟩ : Addr).add i = ⟨b, off + i, none⟩ := by unfold Addr.add; split <;> simp_all
      rw [ea] at c0
      rw [hg i hi']
      refine ⟨b, off, (F i).1.1, (F i).1.2, rfl, ?_, ?_, h5⟩
      · rcases Nat.lt_or_ge b W.heap.size with h2 | h2
        · exact h2
        · simp [World.cell?, Array.getElem?_eq_none h2] at c0
      · rw [c0, e]
end Go.Proofs.Ytghapohempogkaa
