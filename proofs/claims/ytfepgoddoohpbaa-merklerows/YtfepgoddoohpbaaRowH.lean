/- An argument that is a slice of slices of texts, opened. -/
import Derived.Test.YtfepgoddoohpbaaRowL
import Derived.Deep.Slices
namespace Go.Proofs.Ytfepgoddoohpbaa
open Go.ChangeShapes Go.WideShapes Go.ChangeAt Go.RowKit Go.Joins
variable {H : Type} {enc : TypeId × Value → H} {W : World}

theorem open_grids {a : Option Addr} {len cap : Nat} {d : DataW H} {p : List MemPlace} (h : DataW.Trod enc Try.prog W 0 (fun _ => true) true 28 (.slice a len cap) d p) :
    len ≤ cap ∧ len ≤ maxLen ∧ ∃ (ra : Nat → Option Addr) (rc : Nat → Nat) (ss : Nat → List ByteArray), (∀ k, k < len → (ss k).length ≤ maxLen ∧ StrRow W (ra k) (ss k)) ∧
      ∀ k, k < len → ∃ b off : Nat, a = some ⟨b, off, none⟩ ∧ b < W.heap.size ∧ W.cell? ⟨b, off + k, none⟩ = some (.slice (ra k) (ss k).length (rc k)) := by
  obtain ⟨fuel, hf⟩ := h
  rcases Go.Deep.open_slice1 Try.underlying28 (by kernel_rfl) hf with ⟨hcs, _⟩ | ⟨x, l, c, m, n, V, D, Pl, hcs, _, hl, hm, hmm, _, hcell⟩
  · simp [Value.cells] at hcs
    obtain ⟨rfl, rfl, rfl⟩ := hcs
    exact ⟨Nat.le_refl _, Nat.zero_le _, fun _ => none, fun _ => 0, fun _ => [], fun k hk => absurd hk (Nat.not_lt_zero k), fun k hk => absurd hk (Nat.not_lt_zero k)⟩
  · simp [Value.cells] at hcs
    obtain ⟨rfl, rfl, rfl⟩ := hcs
    have hle : len ≤ m := by rw [hmm]; split <;> omega
    refine ⟨hl, Nat.le_trans hl hm, ?_⟩
    have key : ∀ k, ∃ q : Option Addr × Nat × List ByteArray, k < len → (q.2.2.length ≤ maxLen ∧ StrRow W q.1 q.2.2) ∧ ∃ b off : Nat, some x = some ⟨b, off, none⟩ ∧ b < W.heap.size ∧ W.cell? ⟨b, off + k, none⟩ = some (.slice q.1 q.2.2.length q.2.1) := fun k => by
      by_cases hk : k < len
      · obtain ⟨c0, t0⟩ := hcell k (by omega)
        have hV : ∃ a' l' c', V k = .slice a' l' c' := by
          rcases Go.Deep.open_slice Try.underlying22 t0 with ⟨e, _⟩ | ⟨a', l', c', _, _, _, _, e, _⟩
          · exact ⟨none, 0, 0, by simpa using e⟩
          · exact ⟨some a', l', c', by simpa using e⟩
        obtain ⟨a', l', c', e⟩ := hV
        rw [e] at t0 c0
        obtain ⟨ss, h1, h2, _, h3⟩ := open_strs (W := W) (enc := enc) (a := a') (len := l') (cap := c') (d := D k) (p := Pl k) ⟨n, t0⟩
        refine ⟨(a', c', ss), fun _ => ⟨⟨h2, h3⟩, ?_⟩⟩
        obtain ⟨b, off, spot⟩ := x
        have hspot : spot = none := by simpa [Addr.add] using World.cell?_spot (hcell 0 (by omega)).1
        subst hspot
        have ea : (⟨b, off, none⟩ : Addr).add k = ⟨b, off + k, none⟩ := by unfold Addr.add; split <;> simp_all
        rw [ea] at c0
        refine ⟨b, off, rfl, ?_, ?_⟩
        · rcases Nat.lt_or_ge b W.heap.size with h2 | h2
          · exact h2
          · simp [World.cell?, Array.getElem?_eq_none h2] at c0
        · rw [c0, h1]
      · exact ⟨(none, 0, []), fun h => absurd h hk⟩
    obtain ⟨q, hq⟩ := Classical.axiomOfChoice key
    exact ⟨fun k => (q k).1, fun k => (q k).2.1, fun k => (q k).2.2, fun k hk => (hq k hk).1, fun k hk => (hq k hk).2⟩
end Go.Proofs.Ytfepgoddoohpbaa
