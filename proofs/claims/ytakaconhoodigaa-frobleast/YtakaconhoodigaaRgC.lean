/- The contract of span.Turn over the seat's translation. -/
import Derived.Test.YtakaconhoodigaaRgB
namespace Go.Proofs.Ytakaconhoodigaa
open Go.RowKit
open Cb
open Rg
open Tw (pm)

/-- A row of elements that is filled, in the first block behind a world. -/
structure Tn (W w : World) (N : Nat) (h : Nat → Nat × Nat) : Prop where
  row : w.rowIs W.heap.size 24 (N * 2) (tcell h)
  d : Below W.heap.size W w
theorem Tn.below {W w w' : World} {N : Nat} {h : Nat → Nat × Nat} (k : Tn W w N h) (hb : Below w.heap.size w w') : Tn W w' N h := ⟨k.row.of_block (hb.block _ k.row.lt), k.d.trans (hb.mono k.d.size)⟩
theorem Tn.drew {W w : World} {N : Nat} {h : Nat → Nat × Nat} (k : Tn W w N h) : Tn W w.drew N h := k.below (Below.refl _ _).drew
theorem Tn.like {W w : World} {N : Nat} {h h' : Nat → Nat × Nat} (k : Tn W w N h) (e : ∀ c, c < N → h c = h' c) : Tn W w N h' := by
  obtain ⟨⟨cs, h1, h2, h3⟩, d⟩ := k
  refine ⟨⟨cs, h1, h2, fun i hi => ?_⟩, d⟩
  rw [h3 i hi]
  unfold tcell
  rw [e (i / 2) (by omega)]
theorem Tn.put {W w : World} {N : Nat} {h : Nat → Nat × Nat} (k : Tn W w N h) (j : Nat) (r : Nat × Nat) (h' : Nat → Nat × Nat) (e : ∀ c, c < N → h' c = if c = j then r else h c) :
    Tn W ((w.setCell ⟨W.heap.size, j * 2, none⟩ (.int .u64 (r.1 : Int))).setCell ⟨W.heap.size, j * 2 + 1, none⟩ (.int .u64 (r.2 : Int))) N h' := by
  refine ⟨?_, (k.d.setCell (Nat.le_refl _) _).setCell (Nat.le_refl _) _⟩
  obtain ⟨cs, h1, h2, h3⟩ := (k.row.set (j * 2) (.int .u64 (r.1 : Int))).set (j * 2 + 1) (.int .u64 (r.2 : Int))
  refine ⟨cs, h1, h2, fun i hi => ?_⟩
  rw [h3 i hi]
  unfold tcell
  rw [e (i / 2) (by omega)]
  dsimp only
  by_cases c1 : i = j * 2 + 1
  · rw [if_pos c1, if_neg (show ¬ i % 2 = 0 by omega), if_pos (show i / 2 = j by omega)]
  · rw [if_neg c1]
    by_cases c2 : i = j * 2
    · rw [if_pos c2, if_pos (show i % 2 = 0 by omega), if_pos (show i / 2 = j by omega)]
    · rw [if_neg c2, if_neg (show ¬ i / 2 = j by omega)]
theorem Tn.facts {W w : World} {N : Nat} {h : Nat → Nat × Nat} (k : Tn W w N h) (j : Nat) (hj : j < N) :
    w.cell? ⟨W.heap.size, j * 2, none⟩ = some (.int .u64 ((h j).1 : Int)) ∧ w.cell? ⟨W.heap.size, j * 2 + 1, none⟩ = some (.int .u64 ((h j).2 : Int)) ∧ w.frozen? ⟨W.heap.size, j * 2, none⟩ = false ∧ w.frozen? ⟨W.heap.size, j * 2 + 1, none⟩ = false := by
  have c1 := k.row.cell (i := j * 2) (by omega)
  have c0 := k.row.cell (i := j * 2 + 1) (by omega)
  unfold tcell at c1 c0
  rw [if_pos (by omega), show j * 2 / 2 = j by omega] at c1
  rw [if_neg (by omega), show (j * 2 + 1) / 2 = j by omega] at c0
  exact ⟨c1, c0, k.row.frozen _, k.row.frozen _⟩
theorem Tn.start {W w : World} {base N : Nat} (h : w.ownsRow base 24 2 (.slice (some ⟨W.heap.size, 0, none⟩) N N) N (madeCells (Value.agg #[.int .u64 0, .int .u64 0]).cells (N * 2)).toList) (hg : W.grownBy w none) (F : Nat → Nat × Nat) (hF : ∀ c, c < N → F c = (0, 0)) : Tn W w N F := by
  obtain ⟨f, ⟨cs, h1, h2, h3⟩, hz⟩ := own_zero h
  refine ⟨⟨cs, h1, h2, fun i hi => ?_⟩, (Below.refl _ _).grown hg (Nat.le_refl _) (fun k hk => by cases hk)⟩
  rw [h3 i hi, hz i hi]
  unfold tcell
  rw [hF (i / 2) (by omega)]
  split <;> rfl
theorem Tn.erow {W w : World} {N : Nat} {h : Nat → Nat × Nat} (k : Tn W w N h) {es : List (Nat × Nat)} (hl : es.length = N) (e : ∀ c, c < N → el es c = h c) : ERow w (some ⟨W.heap.size, 0, none⟩) es := row_tab hl k.row fun p hp => by
  unfold tcell
  rw [e (p / 2) (by omega)]
/-- The row that is turned, i elements done. -/
def tr (ps : List (Nat × Nat)) (i c : Nat) : Nat × Nat := xs i fun v => sl (hs (el ps v) c) (bv (v : Int))
theorem lt_tr (ps : List (Nat × Nat)) (i c : Nat) : lt2 (tr ps i c) := lt_xs (fun _ => lt_sl (bv_lt2 _)) _
def trj (ps : List (Nat × Nat)) (i j c : Nat) : Nat × Nat := if c < j then tr ps (i + 1) c else tr ps i c
end Go.Proofs.Ytakaconhoodigaa
