/- As TwBl, the words as integers. -/
import Derived.Test.YtogecppdeoinhaaTwC2
namespace Go.Proofs.Ytogecppdeoinhaa
open Go.RowKit

def Eis (w : World) : List (Nat × Int × Int) → Prop
  | [] => True
  | e :: l => (w.cell? ⟨e.1, 0, none⟩ = some (.int .u64 e.2.1) ∧ w.cell? ⟨e.1, 1, none⟩ = some (.int .u64 e.2.2)) ∧ Eis w l
theorem Eis.below {w w' : World} : ∀ {l : List (Nat × Int × Int)}, Eis w l → Below w.heap.size w w' → Eis w' l
  | [], _, _ => trivial
  | _ :: _, h, hb => ⟨⟨keepc hb h.1.1, keepc hb h.1.2⟩, Eis.below h.2 hb⟩
theorem Eis.drew {w : World} : ∀ {l : List (Nat × Int × Int)}, Eis w l → Eis w.drew l
  | [], _ => trivial
  | _ :: _, h => ⟨h.1, Eis.drew h.2⟩
structure Bi (W w : World) (l : List (Nat × Int × Int)) (r : List Nat) : Prop where
  els : Eis w l
  wrs : Wrs w r
  b : Below W.heap.size W w
theorem Bi.below {W w w' : World} {l : List (Nat × Int × Int)} {r : List Nat} (h : Bi W w l r) (hb : Below w.heap.size w w') : Bi W w' l r := ⟨h.els.below hb, h.wrs.below hb, h.b.trans (hb.mono h.b.size)⟩
theorem Bi.drew {W w : World} {l : List (Nat × Int × Int)} {r : List Nat} (h : Bi W w l r) : Bi W w.drew l r := ⟨h.els.drew, h.wrs.drew, h.b.drew⟩
theorem Bi.alloc {W w : World} {l : List (Nat × Int × Int)} {r : List Nat} (h : Bi W w l r) (o : Obj) : Bi W (w.alloc o) l r := h.below ((Below.refl _ _).alloc (Nat.le_refl _) o)
/-- One more, just laid. -/
theorem Bi.laid {W w : World} {l : List (Nat × Int × Int)} {r : List Nat} (h : Bi W w l r) (a b : Int) : Bi W (w.alloc (Obj.cells #[.int .u64 a, .int .u64 b] 24)) ((w.heap.size, a, b) :: l) r :=
  ⟨⟨⟨by simp [go_sem], by simp [go_sem]⟩, (h.alloc _).els⟩, (h.alloc _).wrs, (h.alloc _).b⟩
/-- One more that can be written, just laid. -/
theorem Bi.room {W w : World} {l : List (Nat × Int × Int)} {r : List Nat} (h : Bi W w l r) : Bi W (w.alloc (Obj.cells #[.int .u64 0, .int .u64 0] 24)) l (w.heap.size :: r) :=
  ⟨(h.alloc _).els, ⟨⟨by simp [go_sem], by simp [go_sem], by simp [go_sem], by simp [go_sem]⟩, (h.alloc _).wrs⟩, (h.alloc _).b⟩
theorem Bi.start (W : World) : Bi W W [] [] := ⟨trivial, trivial, Below.refl _ _⟩
/-- What is known of the cells, as one fact. -/
theorem Bi.facts {W w : World} {l : List (Nat × Int × Int)} {r : List Nat} (h : Bi W w l r) : Eis w l ∧ Wrs w r := ⟨h.els, h.wrs⟩
theorem Eis.other {w : World} {p : Nat} {u v : Value} : ∀ {l : List (Nat × Int × Int)}, Eis w l → (∀ e ∈ l, e.1 ≠ p) → Eis ((w.setCell ⟨p, 0, none⟩ u).setCell ⟨p, 1, none⟩ v) l
  | [], _, _ => trivial
  | e :: _, h, hn => by
    have h1 := hn e (by simp)
    obtain ⟨⟨h2, h3⟩, h4⟩ := h
    exact ⟨⟨by simp [go_sem, *], by simp [go_sem, *]⟩, Eis.other h4 fun e he => hn e (by simp [he])⟩
/-- The first room is written: it is an element. -/
theorem Bi.put {W w : World} {l : List (Nat × Int × Int)} {r : List Nat} {p : Nat} (h : Bi W w l (p :: r)) (hp : W.heap.size ≤ p) (hl : ∀ e ∈ l, e.1 ≠ p) (hr : ∀ e ∈ r, e ≠ p) (a b : Int) :
    Bi W ((w.setCell ⟨p, 0, none⟩ (.int .u64 a)).setCell ⟨p, 1, none⟩ (.int .u64 b)) ((p, a, b) :: l) r := by
  have h1 := h.wrs.1
  obtain ⟨h2, h3, h5, h6⟩ := h1
  exact ⟨⟨⟨by simp [go_sem, *], by simp [go_sem, *]⟩, h.els.other hl⟩, Wrs.other h.wrs.2 hr, (h.b.setCell hp _).setCell hp _⟩
theorem Eis.nes {w : World} : ∀ {l : List (Nat × Int × Int)}, Eis w l → Nes w.heap.size (l.map fun e => e.1)
  | [], _ => trivial
  | _ :: _, h => by
    have h1 := cell_lt h.1.1
    exact ⟨⟨Nat.ne_of_lt h1, Nat.ne_of_gt h1⟩, Eis.nes h.2⟩
theorem Bi.nes {W w : World} {l : List (Nat × Int × Int)} {r : List Nat} (h : Bi W w l r) : Nes w.heap.size (l.map fun e => e.1) ∧ Nes w.heap.size r := ⟨h.els.nes, h.wrs.nes⟩
end Go.Proofs.Ytogecppdeoinhaa
