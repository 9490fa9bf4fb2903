/- Contracts of turn.start, sides, next and sign over the seat's translation. -/
import Derived.Test.YthfebbmmhjkglaaTuP
import Derived.Test.YthfebbmmhjkglaaPeel
namespace Go.Proofs.Ythfebbmmhjkglaa
open Go.RowKit
open Cb
open Tw (pm)

/-- Two elements by value. -/
def ag2 (c : Nat → Nat × Nat) : Value := .agg #[.int .u64 ((c 0).1 : Int), .int .u64 ((c 0).2 : Int), .int .u64 ((c 1).1 : Int), .int .u64 ((c 1).2 : Int)]
/-- Two elements in a box. -/
structure E2 (w : World) (q : Nat) (c : Nat → Nat × Nat) : Prop where
  a1 : w.cell? ⟨q, 0, none⟩ = some (.int .u64 ((c 0).1 : Int))
  a0 : w.cell? ⟨q, 1, none⟩ = some (.int .u64 ((c 0).2 : Int))
  b1 : w.cell? ⟨q, 2, none⟩ = some (.int .u64 ((c 1).1 : Int))
  b0 : w.cell? ⟨q, 3, none⟩ = some (.int .u64 ((c 1).2 : Int))
theorem E2.below {w w' : World} {q : Nat} {c : Nat → Nat × Nat} (h : E2 w q c) (hb : Below w.heap.size w w') : E2 w' q c := ⟨keepc hb h.a1, keepc hb h.a0, keepc hb h.b1, keepc hb h.b0⟩
theorem E2.at {w : World} {q : Nat} {c : Nat → Nat × Nat} (h : E2 w q c) {i : Nat} (hi : i < 2) : w.cell? ⟨q, i * 2, none⟩ = some (.int .u64 ((c i).1 : Int)) ∧ w.cell? ⟨q, i * 2 + 1, none⟩ = some (.int .u64 ((c i).2 : Int)) := by
  obtain rfl | rfl : i = 0 ∨ i = 1 := by omega
  · exact ⟨h.a1, h.a0⟩
  · exact ⟨h.b1, h.b0⟩
theorem E2.new (w : World) (c : Nat → Nat × Nat) (T : TypeId) : E2 (w.alloc (Obj.cells #[.int .u64 ((c 0).1 : Int), .int .u64 ((c 0).2 : Int), .int .u64 ((c 1).1 : Int), .int .u64 ((c 1).2 : Int)] T)) w.heap.size c := ⟨by simp [go_sem], by simp [go_sem], by simp [go_sem], by simp [go_sem]⟩
structure F2 (w : World) (q : Nat) : Prop where
  a1 : w.frozen? ⟨q, 0, none⟩ = false
  a0 : w.frozen? ⟨q, 1, none⟩ = false
  b1 : w.frozen? ⟨q, 2, none⟩ = false
  b0 : w.frozen? ⟨q, 3, none⟩ = false
theorem F2.below {w w' : World} {q : Nat} {c : Nat → Nat × Nat} (h : F2 w q) (e : E2 w q c) (hb : Below w.heap.size w w') : F2 w' q := ⟨keepf hb e.a1 h.a1, keepf hb e.a0 h.a0, keepf hb e.b1 h.b1, keepf hb e.b0 h.b0⟩
theorem F2.new (w : World) (c : Nat → Nat × Nat) (T : TypeId) : F2 (w.alloc (Obj.cells #[.int .u64 ((c 0).1 : Int), .int .u64 ((c 0).2 : Int), .int .u64 ((c 1).1 : Int), .int .u64 ((c 1).2 : Int)] T)) w.heap.size := ⟨by simp [go_sem], by simp [go_sem], by simp [go_sem], by simp [go_sem]⟩
theorem tstart : Ret 43 #[] (.agg #[.int .u64 0, .int .u64 1, .int .u64 0, .int .u64 0]) := by
  intro W
  have H1 := Hid.mkT one_any
  go_enter Try.func43, Try.ntmps43
  go_wp2_with (go_at_call 47; refine (H1.out _).mono ?_; rintro e w1 ⟨rfl, hb1⟩; have e0 : E2 w1 W.heap.size (fun _ => (0, 0)) := E2.below ⟨by simp [go_sem], by simp [go_sem], by simp [go_sem], by simp [go_sem]⟩ hb1; have f0 : F2 w1 W.heap.size := F2.below (c := fun _ => (0, 0)) ⟨by simp [go_sem], by simp [go_sem], by simp [go_sem], by simp [go_sem]⟩ ⟨by simp [go_sem], by simp [go_sem], by simp [go_sem], by simp [go_sem]⟩ hb1; obtain ⟨z1, z2, z3, z4⟩ := e0; obtain ⟨y1, y2, y3, y4⟩ := f0; have D : Hid (Below W.heap.size W w1) := ((Below.refl _ _).alloc (Nat.le_refl _) _).trans (hb1.mono (by simp)); clear hb1)
  refine bodyPost_ret (v := .agg #[.int .u64 0, .int .u64 1, .int .u64 0, .int .u64 0]) (by simp [results, Try.results43, go_sem, *]) rfl ⟨rfl, ?_⟩
  exact (((D.out.setCell (by simp) _).setCell (by simp) _).setCell (by simp) _).setCell (by simp) _
/-- The weights of 0 and 1 at an element. -/
def sd (x : Nat × Nat) : Nat → Nat × Nat := fun i => fac x i
structure Sx (W w : World) (x : Nat × Nat) : Prop where
  x : El w W.heap.size x.1 x.2
  r : E2 w (W.heap.size + 1) (fun _ => (0, 0))
  f : F2 w (W.heap.size + 1)
  d : Below W.heap.size W w
theorem Sx.below {W w w' : World} {x : Nat × Nat} (h : Sx W w x) (hb : Below w.heap.size w w') : Sx W w' x := ⟨h.x.below hb, h.r.below hb, h.f.below h.r hb, h.d.trans (hb.mono h.d.size)⟩
theorem Sx.drew {W w : World} {x : Nat × Nat} (h : Sx W w x) : Sx W w.drew x := h.below (Below.refl _ _).drew
set_option maxHeartbeats 2000000 in
set_option maxRecDepth 100000 in
theorem tsides (x : Nat × Nat) (hx : lt2 x) : Ret 45 #[.agg #[.int .u64 (x.1 : Int), .int .u64 (x.2 : Int)]] (ag2 (sd x)) := by
  intro W
  have H1 := Hid.mkT one_any
  have H2 : Hid (Ret 56 #[.agg #[.int .u64 0, .int .u64 1], .agg #[.int .u64 (x.1 : Int), .int .u64 (x.2 : Int)]] (.agg #[.int .u64 ((fac x 0).1 : Int), .int .u64 ((fac x 0).2 : Int)])) := fun w => add_any 0 1 _ _ (by decide) (by decide) hx.1 hx.2 w
  have e1 : fac x 1 = x := by unfold fac; rw [if_pos rfl]
  unfold ag2 sd
  rw [e1]
  generalize fac x 0 = z at *
  have K : Hid (Sx W ((W.alloc (Obj.cells #[.int .u64 (x.1 : Int), .int .u64 (x.2 : Int)] 41)).alloc (Obj.cells #[.int .u64 0, .int .u64 0, .int .u64 0, .int .u64 0] 78)) x) := ⟨⟨by simp [go_sem], by simp [go_sem]⟩, ⟨by simp [go_sem], by simp [go_sem], by simp [go_sem], by simp [go_sem]⟩, ⟨by simp [go_sem], by simp [go_sem], by simp [go_sem], by simp [go_sem]⟩, by go_grown⟩
  clear e1 hx
  go_enter Try.func45, Try.ntmps45
  go_wp2_with fail
  generalize ((W.alloc (Obj.cells #[.int .u64 (x.1 : Int), .int .u64 (x.2 : Int)] 41)).alloc (Obj.cells #[.int .u64 0, .int .u64 0, .int .u64 0, .int .u64 0] 78)) = w3 at *
  obtain ⟨x1, x0⟩ := K.out.x
  obtain ⟨r1, r2, r3, r4⟩ := K.out.r
  obtain ⟨g1, g2, g3, g4⟩ := K.out.f
  go_region_held3 (fun w => w.cell? ⟨W.heap.size, 0, none⟩ = some (.int .u64 (x.1 : Int)) ∧ w.cell? ⟨W.heap.size, 1, none⟩ = some (.int .u64 (x.2 : Int))) (first | (go_keep; done) | (refine ⟨?_, ?_⟩ <;> simp [go_sem, *])) (first | (go_at_call 47; refine (H1.out _).mono ?_; rintro e w' ⟨rfl, hb'⟩; have K' : Hid (Sx W w' x) := Sx.below (w' := w') (by first | exact K.out | exact K.out.drew) hb'; clear x1 x0 r1 r2 r3 r4 g1 g2 g3 g4 K hb'; have K := K'; clear K'; obtain ⟨x1, x0⟩ := K.out.x; obtain ⟨r1, r2, r3, r4⟩ := K.out.r; obtain ⟨g1, g2, g3, g4⟩ := K.out.f) | (go_at_call 56; refine (H2.out.go _).mono ?_; rintro e w' ⟨rfl, hb'⟩; have K' : Hid (Sx W w' x) := Sx.below (w' := w') (by first | exact K.out | exact K.out.drew) hb'; clear x1 x0 r1 r2 r3 r4 g1 g2 g3 g4 K hb'; have K := K'; clear K'; obtain ⟨x1, x0⟩ := K.out.x; obtain ⟨r1, r2, r3, r4⟩ := K.out.r; obtain ⟨g1, g2, g3, g4⟩ := K.out.f))
  go_wp2
  refine bodyPost_ret (v := .agg #[.int .u64 (z.1 : Int), .int .u64 (z.2 : Int), .int .u64 (x.1 : Int), .int .u64 (x.2 : Int)]) (by simp [results, Try.results45, go_sem, *]) rfl ⟨rfl, ?_⟩
  exact (((K.out.d.setCell (by simp) _).setCell (by simp) _).setCell (by simp) _).setCell (by simp) _
set_option maxHeartbeats 2000000 in
theorem tsign (k : Int) (c : Nat → Nat × Nat) (h0 : lt2 (c 0)) (h1 : lt2 (c 1)) : Ret 46 #[ag2 c, .int .i64 k] (.agg #[.int .u64 ((if k = 3 then xa (c 0) (c 1) else c 0).1 : Int), .int .u64 ((if k = 3 then xa (c 0) (c 1) else c 0).2 : Int)]) := by
  intro W
  have H2 : Hid (Ret 56 #[.agg #[.int .u64 ((c 0).1 : Int), .int .u64 ((c 0).2 : Int)], .agg #[.int .u64 ((c 1).1 : Int), .int .u64 ((c 1).2 : Int)]] (.agg #[.int .u64 ((xa (c 0) (c 1)).1 : Int), .int .u64 ((xa (c 0) (c 1)).2 : Int)])) := fun w => add_any _ _ _ _ h0.1 h0.2 h1.1 h1.2 w
  unfold ag2
  clear h0 h1
  by_cases hk : k = 3
  · rw [if_pos hk]
    subst hk
    generalize xa (c 0) (c 1) = z at *
    go_enter Try.func46, Try.ntmps46
    go_wp2_with (go_at_call 56; refine (H2.out.go _).mono ?_; rintro e w1 ⟨rfl, hb1⟩; have E1 : Ew w1 (W.heap.size + 1) 0 0 := Ew.below ⟨⟨by simp [go_sem], by simp [go_sem]⟩, by simp [go_sem], by simp [go_sem]⟩ hb1; have D : Hid (Below W.heap.size W w1) := (((Below.refl _ _).alloc (Nat.le_refl _) _).alloc (by simp) _).trans (hb1.mono (by simp; omega)); obtain ⟨⟨z1, z2⟩, z3, z4⟩ := E1; clear hb1)
    refine bodyPost_ret (v := .agg #[.int .u64 (z.1 : Int), .int .u64 (z.2 : Int)]) (by simp [results, Try.results46, go_sem, *]) rfl ⟨rfl, ?_⟩
    exact (D.out.setCell (by simp) _).setCell (by simp) _
  · rw [if_neg hk]
    have hk' : (k == 3) = false := by rw [beq_eq_false_iff_ne]; exact hk
    go_enter Try.func46, Try.ntmps46
    go_wp2
    refine bodyPost_ret (v := .agg #[.int .u64 ((c 0).1 : Int), .int .u64 ((c 0).2 : Int)]) (by simp [results, Try.results46, go_sem, *]) rfl ⟨rfl, ?_⟩
    go_grown
end Go.Proofs.Ythfebbmmhjkglaa
