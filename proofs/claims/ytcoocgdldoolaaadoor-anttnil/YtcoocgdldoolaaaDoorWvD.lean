/- Contracts of weave.cut and of weave.Gather over the seat's translation, where nothing hinders it. -/
import Derived.Test.YtcoocgdldoolaaaDoorWvA
namespace Go.Proofs.YtcoocgdldoolaaaDoor
open Go.RowKit

/-- The pieces: slices into the list's own row. -/
def pcs (b off wide j : Nat) : List Value := (List.range j).map fun i => .slice (some ⟨b, off + i * wide * 2, none⟩) wide wide
theorem pcs_len (b off wide j : Nat) : (pcs b off wide j).length = j := by simp [pcs]
theorem pcs_snoc (b off wide j : Nat) : pcs b off wide (j + 1) = pcs b off wide j ++ [.slice (some ⟨b, off + j * wide * 2, none⟩) wide wide] := by simp [pcs, List.range_succ]
theorem info_row : ∃ i, Tryd.prog.info? 22 = some i ∧ i.zero = some (.slice none 0 0) ∧ i.size = 1 ∧ i.bytes = 24 := by
  have h : (Tryd.prog.info? 22).map (fun i => (i.zero, i.size, i.bytes)) = some (some (.slice none 0 0), 1, 24) := by kernel_rfl
  obtain ⟨i, hi, he⟩ := Option.map_eq_some_iff.1 h
  simp only [Prod.mk.injEq] at he
  exact ⟨i, hi, he.1, he.2.1, he.2.2⟩
theorem own_pcs {w : World} {base b off wide q : Nat} {v : Value} (h : w.ownsRow base 22 1 v q (pcs b off wide q)) :
    ∃ a' cap', v = .slice a' q cap' ∧ ∀ i, i < q → ∃ g, a' = some ⟨g, 0, none⟩ ∧ base ≤ g ∧ g < w.heap.size ∧ w.cell? ⟨g, i, none⟩ = some (.slice (some ⟨b, off + i * wide * 2, none⟩) wide wide) := by
  have hlt := h.lt
  rcases h.2 with ⟨h1, h0⟩ | ⟨g, cap, cur, rfl, hb, _⟩
  · exact ⟨none, 0, by rw [h1, h0], fun i hi => by omega⟩
  · refine ⟨_, cap, rfl, fun i hi => ⟨g, rfl, ?_, ?_, ?_⟩⟩
    · exact (hlt g rfl).1
    · exact (hlt g rfl).2
    · have := h.cellAt i (by omega)
      rw [this]
      simp [pcs, hi]
theorem own_isRow {w : World} {base : Nat} {T : TypeId} {g n c : Nat} {xs : List Value} (h : w.ownsRow base T 2 (.slice (some ⟨g, 0, none⟩) n n) n xs) (hc : c = n * 2) : ∃ f, w.rowIs g T c f := by
  subst hc
  rcases h.2 with ⟨h1, _⟩ | ⟨g', cap, cur, e, _, hg, _, _, hs, _⟩
  · injection h1 with h2; cases h2
  · injection e with e1 e2 e3
    obtain rfl : g = g' := by injection e1 with e4; injection e4
    subst e3
    exact ⟨fun i => cur.getD i undef, cur, hg, hs, fun i hi => by
      show cur[i]? = some (cur.getD i undef)
      rw [Array.getD_eq_getD_getElem?, Array.getElem?_eq_getElem (by omega)]; rfl⟩
/-- The cells of elements. -/
def gcell (gs : List (Nat × Nat)) (p : Nat) : Value := if p % 2 = 0 then .int .u64 ((gs.getD (p / 2) (0, 0)).1 : Nat) else .int .u64 ((gs.getD (p / 2) (0, 0)).2 : Nat)
theorem row_g {w : World} {g n : Nat} {T : TypeId} {f : Nat → Value} {gs : List (Nat × Nat)} (hn : gs.length = n) (h : w.rowIs g T (n * 2) f) (hf : ∀ p, p < n * 2 → f p = gcell gs p) : ERow w (some ⟨g, 0, none⟩) gs := ⟨fun i hi => by
  have h1 := h.cell (i := i * 2) (by omega)
  have h2 := h.cell (i := i * 2 + 1) (by omega)
  rw [hf _ (by omega)] at h1 h2
  unfold gcell at h1 h2
  rw [if_pos (by omega), show i * 2 / 2 = i by omega] at h1
  rw [if_neg (by omega), show (i * 2 + 1) / 2 = i by omega] at h2
  refine ⟨g, 0, rfl, h.lt, by rw [Nat.zero_add]; exact h1, by rw [Nat.zero_add]; exact h2⟩⟩
end Go.Proofs.YtcoocgdldoolaaaDoor
