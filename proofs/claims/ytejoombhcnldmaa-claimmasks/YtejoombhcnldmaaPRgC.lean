/- Contracts of claim.powers, of the function that it gives, and of claim.Total over the seat's translation. -/
import Derived.Test.YtejoombhcnldmaaPSnA
import Derived.Test.YtejoombhcnldmaaRgB
namespace Go.Proofs.Ytejoombhcnldmaa
open Go.RowKit
open Cb
open Tw (pm)

theorem below_both {B : Nat} {w w' : World} (h : Below B w w') (p : Addr) (u : Value) : Below B (w.setCell p u) (w'.setCell p u) := ⟨h.os, h.tape, h.output, by simpa [World.setCell] using h.size, fun k hk => by
  have := h.block k hk
  simp only [World.setCell, Array.getElem?_modify, this]⟩
/-- The function that hands on powers: what it captured. -/
structure Pws (w : World) (q ql qb k : Nat) (b n : Nat × Nat) : Prop where
  n : Ew w q n.1 n.2
  l : w.cell? ⟨ql, 0, none⟩ = some (.int .i64 (k : Int))
  b : El w qb b.1 b.2
  n1 : q ≠ ql
  n2 : q ≠ qb
theorem Pws.below {w w' : World} {q ql qb k : Nat} {b n : Nat × Nat} (h : Pws w q ql qb k b n) (hb : Below w.heap.size w w') : Pws w' q ql qb k b n := ⟨h.n.below hb, keepc hb h.l, h.b.below hb, h.n1, h.n2⟩
theorem Pws.put {w : World} {q ql qb k : Nat} {b n : Nat × Nat} (h : Pws w q ql qb k b n) (t : Nat × Nat) : Pws ((w.setCell ⟨q, 0, none⟩ (.int .u64 (t.1 : Int))).setCell ⟨q, 1, none⟩ (.int .u64 (t.2 : Int))) q ql qb k b t := by
  have n1 := h.n1
  have n1' : ql ≠ q := fun e => h.n1 e.symm
  have hl := h.l
  exact ⟨h.n.set _ _, by simp [go_sem, *], h.b.keepR h.n2 _ _ _ _, h.n1, h.n2⟩
def fPow (q ql qb : Nat) : Value := .func (.func 60) #[] #[.pointer (some ⟨q, 0, none⟩), .pointer (some ⟨ql, 0, none⟩), .pointer (some ⟨qb, 0, none⟩)]
set_option maxHeartbeats 2000000 in
theorem cmpow (k : Nat) (q ql qb : Nat) (b n : Nat × Nat) (lb : lt2 b) (ln : lt2 n) (ob : ofE k b) (on : ofE k n) (w : World) (h : Pws w q ql qb k b n) :
    Calls Try.prog 60 #[.pointer (some ⟨q, 0, none⟩), .pointer (some ⟨ql, 0, none⟩), .pointer (some ⟨qb, 0, none⟩)] w fun e w' => e = .returned (.agg #[.int .u64 (n.1 : Int), .int .u64 (n.2 : Int)]) ∧ Below w.heap.size ((w.setCell ⟨q, 0, none⟩ (.int .u64 ((pm n b).1 : Int))).setCell ⟨q, 1, none⟩ (.int .u64 ((pm n b).2 : Int))) w' := by
  have MU : Hid (Ret 37 #[.int .i64 (k : Int), .agg #[.int .u64 (n.1 : Int), .int .u64 (n.2 : Int)], .agg #[.int .u64 (b.1 : Int), .int .u64 (b.2 : Int)]] (.agg #[.int .u64 ((pm n b).1 : Int), .int .u64 ((pm n b).2 : Int)])) := by
    have := mul_any (k : Int) n b ln.1 ln.2 lb.1 lb.2
    rw [mulv_of on ob] at this
    exact this
  have H := hidC h
  obtain ⟨⟨c1, c0⟩, f1, f0⟩ := h.n
  have cl := h.l
  obtain ⟨b1, b0⟩ := h.b
  have hq : q < w.heap.size := H.out.n.toEl.lt
  have hql : ql < w.heap.size := cell_lt cl
  have hqb : qb < w.heap.size := cell_lt b1
  clear h lb ln ob on
  generalize pm n b = z at *
  go_enter Try.func60, Try.ntmps60
  go_wp2_with (go_at_call 37; refine (MU.out.go _).mono ?_; rintro e w1 ⟨rfl, hb1⟩; have K1 : Hid (Below w.heap.size w w1 ∧ Ew w1 w.heap.size 0 0 ∧ El w1 (w.heap.size + 1) n.1 n.2 ∧ Ew w1 q n.1 n.2) := ⟨(((Below.refl w.heap.size w).alloc (Nat.le_refl _) _).alloc (by simp) _).trans (hb1.mono (by simp; omega)), ((Ew.roomR w _).alloc _).below hb1, El.below (w := (w.alloc (Obj.cells #[.int .u64 0, .int .u64 0] 26)).alloc (Obj.cells #[.int .u64 (n.1 : Int), .int .u64 (n.2 : Int)] 26)) ⟨by simp [go_sem], by simp [go_sem]⟩ hb1, ((H.out.n.alloc _).alloc _).below hb1⟩; clear hb1 c1 c0 f1 f0 cl b1 b0; obtain ⟨⟨r1, r0⟩, t1, t0⟩ := K1.out.2.1; obtain ⟨m1, m0⟩ := K1.out.2.2.1; obtain ⟨⟨c1, c0⟩, f1, f0⟩ := K1.out.2.2.2)
  have ne1 : ¬ q = w.heap.size := by omega
  have ne2 : ¬ q = w.heap.size + 1 := by omega
  have ne1' : ¬ w.heap.size = q := by omega
  have ne2' : ¬ w.heap.size + 1 = q := by omega
  refine bodyPost_ret (v := .agg #[.int .u64 (n.1 : Int), .int .u64 (n.2 : Int)]) (by simp [results, Try.results60, go_sem, *]) rfl ⟨rfl, ?_⟩
  exact ((below_both (below_both K1.out.1 ⟨q, 0, none⟩ _) ⟨q, 1, none⟩ _).setCell (by simp) _).setCell (by simp) _
set_option maxHeartbeats 2000000 in
theorem cmpows (k : Nat) (b : Nat × Nat) (W : World) :
    Calls Try.prog 35 #[.int .i64 (k : Int), .agg #[.int .u64 (b.1 : Int), .int .u64 (b.2 : Int)]] W fun e w' => ∃ q ql qb, e = .returned (fPow q ql qb) ∧ Pws w' q ql qb k b (0, 1) ∧ (W.heap.size ≤ q ∧ W.heap.size ≤ ql ∧ W.heap.size ≤ qb) ∧ Below W.heap.size W w' := by
  have H1 := hidC one_any
  go_enter Try.func35, Try.ntmps35
  go_wp2_with (go_at_call 59; refine (H1.out _).mono ?_; rintro e w1 ⟨rfl, hb1⟩; have K1 : Hid (Below W.heap.size W w1 ∧ w1.cell? ⟨W.heap.size, 0, none⟩ = some (.int .i64 (k : Int)) ∧ El w1 (W.heap.size + 1) b.1 b.2 ∧ W.heap.size + 1 < w1.heap.size) := ⟨(((Below.refl W.heap.size W).alloc (Nat.le_refl _) _).alloc (by simp) _).trans (hb1.mono (by simp; omega)), keepc hb1 (by simp [go_sem]), El.below (w := (W.alloc (Obj.cells #[.int .i64 (k : Int)] 3)).alloc (Obj.cells #[.int .u64 (b.1 : Int), .int .u64 (b.2 : Int)] 26)) ⟨by simp [go_sem], by simp [go_sem]⟩ hb1, by have := hb1.size; simp at this; omega⟩; clear hb1)
  go_ret
  refine ⟨w1.heap.size, W.heap.size, W.heap.size + 1, rfl, ⟨⟨⟨by simp [go_sem], by simp [go_sem]⟩, by simp [go_sem], by simp [go_sem]⟩, keepc ((Below.refl _ _).alloc (Nat.le_refl _) _) K1.out.2.1, K1.out.2.2.1.alloc _, by have := K1.out.2.2.2; omega, by have := K1.out.2.2.2; omega⟩, ⟨by have := K1.out.2.2.2; omega, Nat.le_refl _, by omega⟩, K1.out.1.alloc K1.out.1.size _⟩
end Go.Proofs.Ytejoombhcnldmaa

/- The contract of span.Turn over the seat's translation. -/
namespace Go.Proofs.Ytejoombhcnldmaa
open Go.RowKit
open Cb
open Rg
open Tw (pm)

/-- A row of elements that is filled, in the first block behind a world. -/
structure Tn (W w : World) (N : Nat) (h : Nat → Nat × Nat) : Prop where
  row : w.rowIs W.heap.size 26 (N * 2) (tcell h)
  d : Below W.heap.size W w
theorem Tn.below {W w w' : World} {N : Nat} {h : Nat → Nat × Nat} (k : Tn W w N h) (hb : Below w.heap.size w w') : Tn W w' N h := ⟨k.row.of_block (hb.block _ k.row.lt), k.d.trans (hb.mono k.d.size)⟩
theorem Tn.drew {W w : World} {N : Nat} {h : Nat → Nat × Nat} (k : Tn W w N h) : Tn W w.drew N h := k.below (Below.refl _ _).drew
theorem Tn.like {W w : World} {N : Nat} {h h' : Nat → Nat × Nat} (k : Tn W w N h) (e : ∀ c, c < N → h c = h' c) : Tn W w N h' := by
  obtain ⟨⟨cs, h1, h2, h3⟩, d⟩ := k
  refine ⟨⟨cs, h1, h2, fun i hi => ?_⟩, d⟩
  rw [h3 i hi]
  unfold tcell
  rw [e (i / 2) (by omega)]
theorem Tn.put {W w : World} {N : Nat} {h : Nat → Nat × Nat} (k : Tn W w N h) (j : Nat) (r : Nat × Nat) (h' : Nat → Nat × Nat) (e : ∀ c, c < N → h' c = if c = j then r else h c) :
    Tn W ((w.setCell ⟨W.heap.size, j * 2, none⟩ (.int .u64 (r.1 : Int))).setCell ⟨W.heap.size, j * 2 + 1, none⟩ (.int .u64 (r.2 : Int))) N h' := by
  refine ⟨?_, (k.d.setCell (Nat.le_refl _) _).setCell (Nat.le_refl _) _⟩
  obtain ⟨cs, h1, h2, h3⟩ := (k.row.set (j * 2) (.int .u64 (r.1 : Int))).set (j * 2 + 1) (.int .u64 (r.2 : Int))
  refine ⟨cs, h1, h2, fun i hi => ?_⟩
  rw [h3 i hi]
  unfold tcell
  rw [e (i / 2) (by omega)]
  dsimp only
  by_cases c1 : i = j * 2 + 1
  · rw [if_pos c1, if_neg (show ¬ i % 2 = 0 by omega), if_pos (show i / 2 = j by omega)]
  · rw [if_neg c1]
    by_cases c2 : i = j * 2
    · rw [if_pos c2, if_pos (show i % 2 = 0 by omega), if_pos (show i / 2 = j by omega)]
    · rw [if_neg c2, if_neg (show ¬ i / 2 = j by omega)]
theorem Tn.facts {W w : World} {N : Nat} {h : Nat → Nat × Nat} (k : Tn W w N h) (j : Nat) (hj : j < N) :
    w.cell? ⟨W.heap.size, j * 2, none⟩ = some (.int .u64 ((h j).1 : Int)) ∧ w.cell? ⟨W.heap.size, j * 2 + 1, none⟩ = some (.int .u64 ((h j).2 : Int)) ∧ w.frozen? ⟨W.heap.size, j * 2, none⟩ = false ∧ w.frozen? ⟨W.heap.size, j * 2 + 1, none⟩ = false := by
  have c1 := k.row.cell (i := j * 2) (by omega)
  have c0 := k.row.cell (i := j * 2 + 1) (by omega)
  unfold tcell at c1 c0
  rw [if_pos (by omega), show j * 2 / 2 = j by omega] at c1
  rw [if_neg (by omega), show (j * 2 + 1) / 2 = j by omega] at c0
  exact ⟨c1, c0, k.row.frozen _, k.row.frozen _⟩
theorem Tn.start {W w : World} {base N : Nat} (h : w.ownsRow base 26 2 (.slice (some ⟨W.heap.size, 0, none⟩) N N) N (madeCells (Value.agg #[.int .u64 0, .int .u64 0]).cells (N * 2)).toList) (hg : W.grownBy w none) (F : Nat → Nat × Nat) (hF : ∀ c, c < N → F c = (0, 0)) : Tn W w N F := by
  obtain ⟨f, ⟨cs, h1, h2, h3⟩, hz⟩ := own_zero h
  refine ⟨⟨cs, h1, h2, fun i hi => ?_⟩, (Below.refl _ _).grown hg (Nat.le_refl _) (fun k hk => by cases hk)⟩
  rw [h3 i hi, hz i hi]
  unfold tcell
  rw [hF (i / 2) (by omega)]
  split <;> rfl
theorem Tn.erow {W w : World} {N : Nat} {h : Nat → Nat × Nat} (k : Tn W w N h) {es : List (Nat × Nat)} (hl : es.length = N) (e : ∀ c, c < N → el es c = h c) : ERow w (some ⟨W.heap.size, 0, none⟩) es := row_tab hl k.row fun p hp => by
  unfold tcell
  rw [e (p / 2) (by omega)]
/-- The row that is turned, i elements done. -/
def tr (ps : List (Nat × Nat)) (i c : Nat) : Nat × Nat := xs i fun v => sl (hs (el ps v) c) (bv (v : Int))
theorem lt_tr (ps : List (Nat × Nat)) (i c : Nat) : lt2 (tr ps i c) := lt_xs (fun _ => lt_sl (bv_lt2 _)) _
def trj (ps : List (Nat × Nat)) (i j c : Nat) : Nat × Nat := if c < j then tr ps (i + 1) c else tr ps i c
end Go.Proofs.Ytejoombhcnldmaa
