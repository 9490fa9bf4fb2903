/- Contracts of tower.One and tower.Sum over the seat's translation. -/
import Derived.Test.YtbmjceiogfhffabTwJ
import Derived.Test.YtbmjceiogfhffabTwO
namespace Go.Proofs.Ytbmjceiogfhffab
open Go.RowKit

/-- An element lies at a block's first cells. -/
structure El (w : World) (b h l : Nat) : Prop where
  hi : w.cell? ⟨b, 0, none⟩ = some (.int .u64 (h : Int))
  lo : w.cell? ⟨b, 1, none⟩ = some (.int .u64 (l : Int))
theorem El.below {w w' : World} {b h l : Nat} (e : El w b h l) (hb : Below w.heap.size w w') : El w' b h l := ⟨keepc hb e.hi, keepc hb e.lo⟩
/-- And can be written. -/
structure Ew (w : World) (b h l : Nat) : Prop extends El w b h l where
  fhi : w.frozen? ⟨b, 0, none⟩ = false
  flo : w.frozen? ⟨b, 1, none⟩ = false
theorem Ew.below {w w' : World} {b h l : Nat} (e : Ew w b h l) (hb : Below w.heap.size w w') : Ew w' b h l := ⟨e.toEl.below hb, keepf hb e.hi e.fhi, keepf hb e.lo e.flo⟩
theorem El.lt {w : World} {b h l : Nat} (e : El w b h l) : b < w.heap.size := by
  rcases Nat.lt_or_ge b w.heap.size with h1 | h1
  · exact h1
  · have := e.hi; simp [World.cell?, Array.getElem?_eq_none h1] at this

theorem El.alloc {w : World} {b h l : Nat} (e : El w b h l) (o : Obj) : El (w.alloc o) b h l := e.below ((Below.refl _ _).alloc (Nat.le_refl _) o)
theorem Ew.alloc {w : World} {b h l : Nat} (e : Ew w b h l) (o : Obj) : Ew (w.alloc o) b h l := e.below ((Below.refl _ _).alloc (Nat.le_refl _) o)
theorem El.drew {w : World} {b h l : Nat} (e : El w b h l) : El w.drew b h l := ⟨e.hi, e.lo⟩
theorem Ew.drew {w : World} {b h l : Nat} (e : Ew w b h l) : Ew w.drew b h l := ⟨⟨e.hi, e.lo⟩, e.fhi, e.flo⟩
theorem Ew.set {w : World} {b h l : Nat} (e : Ew w b h l) (h' l' : Nat) : Ew ((w.setCell ⟨b, 0, none⟩ (.int .u64 (h' : Int))).setCell ⟨b, 1, none⟩ (.int .u64 (l' : Int))) b h' l' := by
  obtain ⟨⟨e1, e0⟩, f1, f0⟩ := e
  exact ⟨⟨by simp [go_sem, *], by simp [go_sem, *]⟩, by simp [go_sem, *], by simp [go_sem, *]⟩
theorem Ew.other {w : World} {b c h l : Nat} (e : Ew w c h l) (hn : b ≠ c) (u v : Value) : Ew ((w.setCell ⟨b, 0, none⟩ u).setCell ⟨b, 1, none⟩ v) c h l := by
  obtain ⟨⟨e1, e0⟩, f1, f0⟩ := e
  have hn' : c ≠ b := fun h => hn h.symm
  exact ⟨⟨by simp [go_sem, *], by simp [go_sem, *]⟩, by simp [go_sem, *], by simp [go_sem, *]⟩

/-- All added. -/
def xsum (es : List (Nat × Nat)) : Nat × Nat := es.foldl (fun s e => (s.1 ^^^ e.1, s.2 ^^^ e.2)) (0, 0)
theorem xsum_snoc (es : List (Nat × Nat)) (e : Nat × Nat) : xsum (es ++ [e]) = ((xsum es).1 ^^^ e.1, (xsum es).2 ^^^ e.2) := by simp [xsum]
theorem xsum_lt (es : List (Nat × Nat)) (h : ∀ e ∈ es, e.1 < 2 ^ 64 ∧ e.2 < 2 ^ 64) : ∀ k, (xsum (es.take k)).1 < 2 ^ 64 ∧ (xsum (es.take k)).2 < 2 ^ 64 := by
  intro k
  induction k with
  | zero => simp [xsum]
  | succ k ih =>
    by_cases hk : k < es.length
    · rw [take_sn es k hk, xsum_snoc]
      have hm : es.getD k (0, 0) ∈ es := by rw [show es.getD k (0, 0) = es[k] by simp [hk]]; exact List.getElem_mem hk
      exact ⟨Nat.xor_lt_two_pow ih.1 (h _ hm).1, Nat.xor_lt_two_pow ih.2 (h _ hm).2⟩
    · rw [List.take_of_length_le (by omega)]; rw [List.take_of_length_le (by omega)] at ih; exact ih

end Go.Proofs.Ytbmjceiogfhffab
