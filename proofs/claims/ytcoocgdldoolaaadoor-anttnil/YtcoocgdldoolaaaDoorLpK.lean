/- A space while it is made: two rows that grow side by side. -/
import Derived.Test.YtcoocgdldoolaaaDoorLpF
import Derived.Test.YtcoocgdldoolaaaDoorLpJ
import Derived.Deep.AppendLies
namespace Go.Proofs.YtcoocgdldoolaaaDoor
open Go.RowKit

/-- A space's cells and its two rows. -/
structure Mk (W w : World) (l : Int) (vA vT vB : Value) (nT nB : Nat) (xT xB : List Value) : Prop where
  c0 : w.cell? ⟨W.heap.size, 0, none⟩ = some (.int .i64 l)
  c1 : w.cell? ⟨W.heap.size, 1, none⟩ = some vA
  c2 : w.cell? ⟨W.heap.size, 2, none⟩ = some vT
  c3 : w.cell? ⟨W.heap.size, 3, none⟩ = some vB
  f2 : w.frozen? ⟨W.heap.size, 2, none⟩ = false
  f3 : w.frozen? ⟨W.heap.size, 3, none⟩ = false
  oT : w.ownsRow (W.heap.size + 1) 25 2 vT nT xT
  oB : w.ownsRow (W.heap.size + 1) 25 2 vB nB xB
  ne : ∀ g h, vT.ownBlock = some g → vB.ownBlock = some h → g ≠ h
  d : Below W.heap.size W w
variable {W w wA w' : World} {l : Int} {vA vT vB v' : Value} {nT nB n' g : Nat} {xT xB x' : List Value}
theorem Mk.below (h : Mk W w l vA vT vB nT nB xT xB) (k : Below w.heap.size w w') : Mk W w' l vA vT vB nT nB xT xB :=
  ⟨keepc k h.c0, keepc k h.c1, keepc k h.c2, keepc k h.c3, keepf k h.c2 h.f2, keepf k h.c3 h.f3, own_below h.oT k, own_below h.oB k, h.ne, h.d.trans (k.mono h.d.size)⟩
theorem row_ne {base k n size : Nat} {T : TypeId} {v : Value} {xs : List Value} (h : w.ownsRow base T size v n xs) (hk : k < base) : some k ≠ v.ownBlock := fun e => by
  have := (h.lt k e.symm).1; omega
theorem grown_cell {row : Option Nat} (hgr : wA.grownBy w' row) {k o : Nat} (hk : k < wA.heap.size) (hn : some k ≠ row) : w'.cell? ⟨k, o, none⟩ = wA.cell? ⟨k, o, none⟩ := World.cell?_of_block (a := ⟨k, o, none⟩) (hgr.block k hk hn)
theorem grown_frozen {row : Option Nat} (hgr : wA.grownBy w' row) {k o : Nat} (hk : k < wA.heap.size) (hn : some k ≠ row) : w'.frozen? ⟨k, o, none⟩ = wA.frozen? ⟨k, o, none⟩ := World.frozen?_of_block (a := ⟨k, o, none⟩) (hgr.block k hk hn)
theorem Mk.tops (h : Mk W w l vA vT vB nT nB xT xB) (BA : Below w.heap.size w wA) (hgr : wA.grownBy w' vT.ownBlock) (own' : w'.ownsRow (W.heap.size + 1) 25 2 v' n' x') (hv : v'.ownBlock = some g) (hl : vT.ownBlock = some g ∨ g = wA.heap.size) :
    Mk W (w'.setCell ⟨W.heap.size, 2, none⟩ v') l vA v' vB n' nB x' xB := by
  have K := h.below BA
  have hP : W.heap.size < wA.heap.size := cell_lt K.c0
  have hn : some W.heap.size ≠ vT.ownBlock := row_ne K.oT (by omega)
  have e : ∀ o, w'.cell? ⟨W.heap.size, o, none⟩ = wA.cell? ⟨W.heap.size, o, none⟩ := fun o => grown_cell hgr hP hn
  have f : ∀ o, w'.frozen? ⟨W.heap.size, o, none⟩ = wA.frozen? ⟨W.heap.size, o, none⟩ := fun o => grown_frozen hgr hP hn
  refine ⟨?_, ?_, ?_, ?_, ?_, ?_, ownsRow_setCell_below own' (by show W.heap.size < W.heap.size + 1; omega) _, ownsRow_setCell_below (K.oB.kept hgr ?_) (by show W.heap.size < W.heap.size + 1; omega) _, ?_, (K.d.grown hgr K.d.size (fun k hk => by have := (K.oT.lt k hk).1; omega)).setCell (Nat.le_refl _) _⟩
  · simp [go_sem, e, K.c0]
  · simp [go_sem, e, K.c1]
  · simp [go_sem, e, K.c2]
  · simp [go_sem, e, K.c3]
  · simp [go_sem, f, K.f2]
  · simp [go_sem, f, K.f3]
  · cases hB : vB.ownBlock with
    | none => exact .inl rfl
    | some b => exact .inr fun e => h.ne b b e.symm hB rfl
  · intro g1 h1 e1 e2
    rw [hv] at e1
    obtain rfl := Option.some.inj e1
    rcases hl with hl | rfl
    · exact h.ne _ _ hl e2
    · have := (K.oB.lt h1 e2).2; omega
theorem Mk.backs (h : Mk W w l vA vT vB nT nB xT xB) (BA : Below w.heap.size w wA) (hgr : wA.grownBy w' vB.ownBlock) (own' : w'.ownsRow (W.heap.size + 1) 25 2 v' n' x') (hv : v'.ownBlock = some g) (hl : vB.ownBlock = some g ∨ g = wA.heap.size) :
    Mk W (w'.setCell ⟨W.heap.size, 3, none⟩ v') l vA vT v' nT n' xT x' := by
  have K := h.below BA
  have hP : W.heap.size < wA.heap.size := cell_lt K.c0
  have hn : some W.heap.size ≠ vB.ownBlock := row_ne K.oB (by omega)
  have e : ∀ o, w'.cell? ⟨W.heap.size, o, none⟩ = wA.cell? ⟨W.heap.size, o, none⟩ := fun o => grown_cell hgr hP hn
  have f : ∀ o, w'.frozen? ⟨W.heap.size, o, none⟩ = wA.frozen? ⟨W.heap.size, o, none⟩ := fun o => grown_frozen hgr hP hn
  refine ⟨?_, ?_, ?_, ?_, ?_, ?_, ownsRow_setCell_below (K.oT.kept hgr ?_) (by show W.heap.size < W.heap.size + 1; omega) _, ownsRow_setCell_below own' (by show W.heap.size < W.heap.size + 1; omega) _, ?_, (K.d.grown hgr K.d.size (fun k hk => by have := (K.oB.lt k hk).1; omega)).setCell (Nat.le_refl _) _⟩
  · simp [go_sem, e, K.c0]
  · simp [go_sem, e, K.c1]
  · simp [go_sem, e, K.c2]
  · simp [go_sem, e, K.c3]
  · simp [go_sem, f, K.f2]
  · simp [go_sem, f, K.f3]
  · cases hT : vT.ownBlock with
    | none => exact .inl rfl
    | some b => exact .inr fun e => h.ne b b hT e.symm rfl
  · intro g1 h1 e1 e2
    rw [hv] at e2
    obtain rfl := Option.some.inj e2
    rcases hl with hl | rfl
    · exact h.ne _ _ e1 hl
    · have := (K.oT.lt g1 e1).2; omega
end Go.Proofs.YtcoocgdldoolaaaDoor
