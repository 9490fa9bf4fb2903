/- The walk of LineApart over the seat's translation. -/
import Derived.Test.YtcnbaoijgfaljaaLnF
import Derived.Test.YtcnbaoijgfaljaaPeel
namespace Go.Proofs.Ytcnbaoijgfaljaa
open Go.RowKit
open Cb Ln
open Tw (pm)

/-- How many of the first n elements have the same value. -/
def agr (t s : List (Nat × Nat)) (n : Nat) : Nat := cnt (fun i => decide (atv t (pl i) = atv s (pl i))) n
theorem agr_yes {t s : List (Nat × Nat)} {i : Nat} (h : atv t (pl i) = atv s (pl i)) : agr t s (i + 1) = agr t s i + 1 := by unfold agr; rw [cnt, if_pos (decide_eq_true h)]
theorem agr_no {t s : List (Nat × Nat)} {i : Nat} (h : ¬ atv t (pl i) = atv s (pl i)) : agr t s (i + 1) = agr t s i := by unfold agr; rw [cnt, if_neg (by rw [decide_eq_false h]; decide)]; rfl
theorem agr_le (t s : List (Nat × Nat)) : ∀ n, agr t s n ≤ n
  | 0 => Nat.le_refl _
  | n + 1 => by
    have := agr_le t s n
    by_cases h : atv t (pl n) = atv s (pl n)
    · rw [agr_yes h]; omega
    · rw [agr_no h]; omega
theorem take_eq {t s : List (Nat × Nat)} {j : Nat} (ht : j < t.length) (hs : j < s.length) : t.take (j + 1) = s.take (j + 1) ↔ t.take j = s.take j ∧ t.getD j (0, 0) = s.getD j (0, 0) := by
  rw [take_sn t j ht, take_sn s j hs]
  constructor
  · intro h
    have := List.append_inj' h rfl
    exact ⟨this.1, by simpa using this.2⟩
  · rintro ⟨h1, h2⟩
    rw [h1, h2]
/-- What the first loop holds: boxes of the element and of the first value. -/
structure La (W w : World) (q : Nat) (x : Nat × Nat) : Prop where
  x : El w q x.1 x.2
  d : Below W.heap.size W w
theorem La.below {W w w' : World} {q : Nat} {x : Nat × Nat} (h : La W w q x) (hb : Below w.heap.size w w') : La W w' q x := ⟨h.x.below hb, h.d.trans (hb.mono h.d.size)⟩
theorem La.alloc {W w : World} {q : Nat} {x : Nat × Nat} (h : La W w q x) (o : Obj) : La W (w.alloc o) q x := h.below ((Below.refl _ _).alloc (Nat.le_refl _) o)
theorem La.new {W w : World} (h : Below W.heap.size W w) (x : Nat × Nat) : La W (w.alloc (Obj.cells #[.int .u64 (x.1 : Int), .int .u64 (x.2 : Int)] 25)) w.heap.size x := ⟨⟨by simp [go_sem], by simp [go_sem]⟩, h.alloc h.size _⟩
end Go.Proofs.Ytcnbaoijgfaljaa
