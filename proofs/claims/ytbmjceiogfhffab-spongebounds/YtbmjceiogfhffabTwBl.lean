/- Elements that lie in memory, any number of them; blocks that can be written; what lay there before is as it was. -/
import Derived.Test.YtbmjceiogfhffabTwRt
namespace Go.Proofs.Ytbmjceiogfhffab
open Go.RowKit

def Els (w : World) : List (Nat × Nat × Nat) → Prop
  | [] => True
  | e :: l => (w.cell? ⟨e.1, 0, none⟩ = some (.int .u64 (e.2.1 : Int)) ∧ w.cell? ⟨e.1, 1, none⟩ = some (.int .u64 (e.2.2 : Int))) ∧ Els w l
theorem Els.below {w w' : World} : ∀ {l : List (Nat × Nat × Nat)}, Els w l → Below w.heap.size w w' → Els w' l
  | [], _, _ => trivial
  | _ :: _, h, hb => ⟨⟨keepc hb h.1.1, keepc hb h.1.2⟩, Els.below h.2 hb⟩
theorem Els.drew {w : World} : ∀ {l : List (Nat × Nat × Nat)}, Els w l → Els w.drew l
  | [], _ => trivial
  | _ :: _, h => ⟨h.1, Els.drew h.2⟩
def Wrs (w : World) : List Nat → Prop
  | [] => True
  | p :: l => (w.cell? ⟨p, 0, none⟩ = some (.int .u64 0) ∧ w.cell? ⟨p, 1, none⟩ = some (.int .u64 0) ∧ w.frozen? ⟨p, 0, none⟩ = false ∧ w.frozen? ⟨p, 1, none⟩ = false) ∧ Wrs w l
theorem Wrs.below {w w' : World} : ∀ {l : List Nat}, Wrs w l → Below w.heap.size w w' → Wrs w' l
  | [], _, _ => trivial
  | _ :: _, h, hb => ⟨⟨keepc hb h.1.1, keepc hb h.1.2.1, keepf hb h.1.1 h.1.2.2.1, keepf hb h.1.2.1 h.1.2.2.2⟩, Wrs.below h.2 hb⟩
theorem Wrs.drew {w : World} : ∀ {l : List Nat}, Wrs w l → Wrs w.drew l
  | [], _ => trivial
  | _ :: _, h => ⟨h.1, Wrs.drew h.2⟩
structure Bl (W w : World) (l : List (Nat × Nat × Nat)) (r : List Nat) : Prop where
  els : Els w l
  wrs : Wrs w r
  b : Below W.heap.size W w
theorem Bl.below {W w w' : World} {l : List (Nat × Nat × Nat)} {r : List Nat} (h : Bl W w l r) (hb : Below w.heap.size w w') : Bl W w' l r := ⟨h.els.below hb, h.wrs.below hb, h.b.trans (hb.mono h.b.size)⟩
theorem Bl.drew {W w : World} {l : List (Nat × Nat × Nat)} {r : List Nat} (h : Bl W w l r) : Bl W w.drew l r := ⟨h.els.drew, h.wrs.drew, h.b.drew⟩
theorem Bl.alloc {W w : World} {l : List (Nat × Nat × Nat)} {r : List Nat} (h : Bl W w l r) (o : Obj) : Bl W (w.alloc o) l r := h.below ((Below.refl _ _).alloc (Nat.le_refl _) o)
/-- One more, just laid. -/
theorem Bl.laid {W w : World} {l : List (Nat × Nat × Nat)} {r : List Nat} (h : Bl W w l r) (a b : Nat) : Bl W (w.alloc (Obj.cells #[.int .u64 (a : Int), .int .u64 (b : Int)] 62)) ((w.heap.size, a, b) :: l) r :=
  ⟨⟨⟨by simp [go_sem], by simp [go_sem]⟩, (h.alloc _).els⟩, (h.alloc _).wrs, (h.alloc _).b⟩
/-- One more that can be written, just laid. -/
theorem Bl.room {W w : World} {l : List (Nat × Nat × Nat)} {r : List Nat} (h : Bl W w l r) : Bl W (w.alloc (Obj.cells #[.int .u64 0, .int .u64 0] 62)) l (w.heap.size :: r) :=
  ⟨(h.alloc _).els, ⟨⟨by simp [go_sem], by simp [go_sem], by simp [go_sem], by simp [go_sem]⟩, (h.alloc _).wrs⟩, (h.alloc _).b⟩
theorem alloc_size (w : World) (o : Obj) : (w.alloc o).heap.size = w.heap.size + 1 := by simp
theorem Bl.start (W : World) : Bl W W [] [] := ⟨trivial, trivial, Below.refl _ _⟩
/-- What is known of the cells, as one fact. -/
theorem Bl.facts {W w : World} {l : List (Nat × Nat × Nat)} {r : List Nat} (h : Bl W w l r) : Els w l ∧ Wrs w r := ⟨h.els, h.wrs⟩
theorem Els.other {w : World} {p : Nat} {u v : Value} : ∀ {l : List (Nat × Nat × Nat)}, Els w l → (∀ e ∈ l, e.1 ≠ p) → Els ((w.setCell ⟨p, 0, none⟩ u).setCell ⟨p, 1, none⟩ v) l
  | [], _, _ => trivial
  | e :: _, h, hn => by
    have h1 := hn e (by simp)
    obtain ⟨⟨h2, h3⟩, h4⟩ := h
    exact ⟨⟨by simp [go_sem, *], by simp [go_sem, *]⟩, Els.other h4 fun e he => hn e (by simp [he])⟩
theorem Wrs.other {w : World} {p : Nat} {u v : Value} : ∀ {l : List Nat}, Wrs w l → (∀ e ∈ l, e ≠ p) → Wrs ((w.setCell ⟨p, 0, none⟩ u).setCell ⟨p, 1, none⟩ v) l
  | [], _, _ => trivial
  | e :: _, h, hn => by
    have h1 := hn e (by simp)
    obtain ⟨⟨h2, h3, h5, h6⟩, h4⟩ := h
    exact ⟨⟨by simp [go_sem, *], by simp [go_sem, *], by simp [go_sem, *], by simp [go_sem, *]⟩, Wrs.other h4 fun e he => hn e (by simp [he])⟩
/-- The first room is written: it is an element. -/
theorem Bl.put {W w : World} {l : List (Nat × Nat × Nat)} {r : List Nat} {p : Nat} (h : Bl W w l (p :: r)) (hp : W.heap.size ≤ p) (hl : ∀ e ∈ l, e.1 ≠ p) (hr : ∀ e ∈ r, e ≠ p) (a b : Nat) :
    Bl W ((w.setCell ⟨p, 0, none⟩ (.int .u64 (a : Int))).setCell ⟨p, 1, none⟩ (.int .u64 (b : Int))) ((p, a, b) :: l) r := by
  have h1 := h.wrs.1
  obtain ⟨h2, h3, h5, h6⟩ := h1
  exact ⟨⟨⟨by simp [go_sem, *], by simp [go_sem, *]⟩, h.els.other hl⟩, Wrs.other h.wrs.2 hr, (h.b.setCell hp _).setCell hp _⟩
/-- A block is none of these. -/
def Nes (b : Nat) : List Nat → Prop
  | [] => True
  | p :: l => (¬ p = b ∧ ¬ b = p) ∧ Nes b l
theorem cell_lt {w : World} {b o : Nat} {v : Value} (h : w.cell? ⟨b, o, none⟩ = some v) : b < w.heap.size := by
  rcases Nat.lt_or_ge b w.heap.size with h1 | h1
  · exact h1
  · simp [World.cell?, Array.getElem?_eq_none h1] at h
theorem Els.nes {w : World} : ∀ {l : List (Nat × Nat × Nat)}, Els w l → Nes w.heap.size (l.map fun e => e.1)
  | [], _ => trivial
  | _ :: _, h => by
    have h1 := cell_lt h.1.1
    exact ⟨⟨Nat.ne_of_lt h1, Nat.ne_of_gt h1⟩, Els.nes h.2⟩
theorem Wrs.nes {w : World} : ∀ {l : List Nat}, Wrs w l → Nes w.heap.size l
  | [], _ => trivial
  | _ :: _, h => by
    have h1 := cell_lt h.1.1
    exact ⟨⟨Nat.ne_of_lt h1, Nat.ne_of_gt h1⟩, Wrs.nes h.2⟩
theorem Bl.nes {W w : World} {l : List (Nat × Nat × Nat)} {r : List Nat} (h : Bl W w l r) : Nes w.heap.size (l.map fun e => e.1) ∧ Nes w.heap.size r := ⟨h.els.nes, h.wrs.nes⟩
end Go.Proofs.Ytbmjceiogfhffab
