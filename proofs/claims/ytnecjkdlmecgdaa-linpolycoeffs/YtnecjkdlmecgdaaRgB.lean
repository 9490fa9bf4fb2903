/- The contract of cube.Weights over the seat's translation. -/
import Derived.Test.YtnecjkdlmecgdaaPSqA
import Derived.Test.YtnecjkdlmecgdaaPCbF
import Derived.Test.YtnecjkdlmecgdaaPLpE
import Derived.Deep.OwnRows
import Derived.Maps.AppendAt
namespace Go.Proofs.Ytnecjkdlmecgdaa
open Go.RowKit
open Cb
open Rg
open Tw (pm)

/-- A store into a row of one's own. -/
theorem own_setR {w : World} {base size g n cap : Nat} {T : TypeId} {xs : List Value} (h : w.ownsRow base T size (.slice (some ⟨g, 0, none⟩) n cap) n xs) (i : Nat) (u : Value) :
    (w.setCell ⟨g, i, none⟩ u).ownsRow base T size (.slice (some ⟨g, 0, none⟩) n cap) n (xs.set i u) := by
  obtain ⟨h1, h2⟩ := h
  refine ⟨by rw [List.length_set]; exact h1, ?_⟩
  rcases h2 with ⟨h3, _⟩ | ⟨g', cap', cur, e, hb, hg, hn, hm, hs, ht⟩
  · injection h3 with h4; cases h4
  · injection e with e1 e2 e3
    obtain rfl : g = g' := by injection e1 with e4; injection e4
    subst e3
    refine .inr ⟨g, cap, cur.setIfInBounds i u, rfl, hb, ?_, hn, hm, by simpa using hs, ?_⟩
    · simp [World.setCell, Array.getElem?_modify, hg]
    · rw [Array.toList_setIfInBounds, List.take_set, ht]
theorem own_cellR {w : World} {base size g n cap : Nat} {T : TypeId} {xs : List Value} (h : w.ownsRow base T size (.slice (some ⟨g, 0, none⟩) n cap) n xs) (i : Nat) (hi : i < n * size) :
    w.cell? ⟨g, i, none⟩ = xs[i]? ∧ w.frozen? ⟨g, i, none⟩ = false := by
  obtain ⟨h1, h2⟩ := h
  rcases h2 with ⟨h3, _⟩ | ⟨g', cap', cur, e, hb, hg, hn, hm, hs, ht⟩
  · injection h3 with h4; cases h4
  · injection e with e1 e2 e3
    obtain rfl : g = g' := by injection e1 with e4; injection e4
    subst ht
    have hlt : i < cur.size := by
      rw [hs]
      exact Nat.lt_of_lt_of_le hi (Nat.mul_le_mul_right _ hn)
    refine ⟨?_, by simp [World.frozen?, hg]⟩
    rw [List.getElem?_take_of_lt hi]
    simp [World.cell?, hg, hlt]
theorem flat_put (es : List (Nat × Nat)) (r : Nat × Nat) : ∀ m, m < es.length → ((flat es).set (m * 2) (.int .u64 (r.1 : Nat))).set (m * 2 + 1) (.int .u64 (r.2 : Nat)) = flat (es.set m r) := by
  induction es with
  | nil => intro m hm; simp at hm
  | cons x es ih =>
    intro m hm
    have ef : ∀ (e : Nat × Nat) l, flat (e :: l) = .int .u64 (e.1 : Int) :: .int .u64 (e.2 : Int) :: flat l := fun e l => by simp [flat]
    cases m with
    | zero => simp [ef]
    | succ m =>
      have := ih m (by simpa using hm)
      rw [List.set_cons_succ, ef, ef, ← this, show (m + 1) * 2 = m * 2 + 1 + 1 by omega, show m * 2 + 1 + 1 + 1 = (m * 2 + 1) + 1 + 1 by omega]
      simp
theorem flat_end (es : List (Nat × Nat)) (r : Nat × Nat) : flat (es ++ [r]) = flat es ++ [.int .u64 (r.1 : Nat), .int .u64 (r.2 : Nat)] := by simp [flat]
/-- make([]T, 1, n). -/
theorem wpList_make_first {P : Program} (w : World) {ops : Array Oper} {rest : List Oper} {o : Oper} {a : Act} {Q : Exit → Act → World → Prop}
    (hg : o.guard = none) (l c : Operand) (t : TypeId) (hop : o.op = Op.makeSlice t l c)
    (base : Nat) (e : TypeId) (i : TypeInfo) (z : Value) (size : Nat) (h1 : P.underlying t = some (.slice e)) (h2 : P.info? e = some i) (h3 : i.zero = some z) (h4 : i.size = size)
    (kl kc : IntKind) (C : Int) (n : Nat) (hl : a.eval l = .int kl 1) (hc : a.eval c = .int kc C) (hC : C = (n : Int)) (h0 : 1 ≤ n) (b2 : i.bytes * n ≤ 281474976710656) (b3 : n ≤ maxLen) (b4 : base ≤ w.heap.size)
    (hK : ∀ w' xs, w'.ownsRow base e size (.slice (some ⟨w.heap.size, 0, none⟩) 1 n) 1 xs → w.grownBy w' none → wpList P ops Q rest (a.put o.dst (.slice (some ⟨w.heap.size, 0, none⟩) 1 n)) w') :
    wpList P ops Q (o :: rest) a w := by
  refine wpList_plain hg fun K hK' => ?_
  subst hC h4
  have h63' : (n : Int) ≤ 9223372036854775807 := by
    have h := b3
    simp [maxLen] at h
    omega
  have hb' : (i.bytes : Int) * (n : Int) ≤ 281474976710656 := by
    have h : ((i.bytes * n : Nat) : Int) ≤ 281474976710656 := by omega
    rwa [Int.natCast_mul] at h
  have hr := run_make (P := P) w t e i z h1 h2 h3 kl kc 1 n (by decide) (by omega) hb' h63'
  simp only [Int.toNat_natCast] at hr
  have hr2 : (Instr.makeSlice t (.int kl 1) (.int kc (n : Int))).run P w = .ok (.slice (some ⟨w.heap.size, 0, none⟩) 1 n) (w.alloc (.cells (madeCells z.cells (n * i.size)) e)) := hr
  unfold Oper.wp
  simp [execOp, hop, hl, hc, hr2, Result.andThen]
  refine hK' _ _ (hK _ ((madeCells z.cells (n * i.size)).toList.take (1 * i.size)) ⟨?_, .inr ⟨w.heap.size, n, madeCells z.cells (n * i.size), rfl, b4, heap_alloc_new w _, h0, b3, size_madeCells _ _, rfl⟩⟩ (World.grownBy_alloc w _ none))
  rw [List.length_take, Array.length_toList, size_madeCells]
  have : i.size ≤ n * i.size := Nat.le_mul_of_pos_left _ h0
  omega
theorem two_vals {xs : List Value} (h : xs.length = 1 * 2) : ∃ a b, xs = [a, b] := by
  match xs, h with
  | [a, b], _ => exact ⟨a, b, rfl⟩
theorem El.keepR {w : World} {b c h l : Nat} (e : El w c h l) (hn : b ≠ c) (o o' : Nat) (u v : Value) : El ((w.setCell ⟨b, o, none⟩ u).setCell ⟨b, o', none⟩ v) c h l := by
  obtain ⟨h1, h2⟩ := e
  have hn' : c ≠ b := fun h => hn h.symm
  exact ⟨by simp [go_sem, *], by simp [go_sem, *]⟩
theorem El.growR {w w' : World} {q h l : Nat} {ob : Option Nat} (hg : w.grownBy w' ob) (e : El w q h l) (hne : ob ≠ some q) : El w' q h l := by
  have hb := hg.block q e.lt (fun h => hne h.symm)
  exact ⟨by rw [← e.hi]; simp [World.cell?, hb], by rw [← e.lo]; simp [World.cell?, hb]⟩
theorem Ew.roomR (w : World) (T : TypeId) : Ew (w.alloc (Obj.cells #[.int .u64 0, .int .u64 0] T)) w.heap.size 0 0 := ⟨⟨by simp [go_sem], by simp [go_sem]⟩, by simp [go_sem], by simp [go_sem]⟩
theorem El.newR (w : World) (v : Nat × Nat) (T : TypeId) : El (w.alloc (Obj.cells #[.int .u64 (v.1 : Int), .int .u64 (v.2 : Int)] T)) w.heap.size v.1 v.2 := ⟨by simp [go_sem], by simp [go_sem]⟩
/-- The row that grows, and the element of the point. -/
structure Wo (W w : World) (s : Value) (N : Nat) (L : List (Nat × Nat)) (qx : Nat) (x : Nat × Nat) : Prop where
  own : w.ownsRow W.heap.size 27 2 s N (flat L)
  x : El w qx x.1 x.2
  n : s.ownBlock ≠ some qx
  d : Below W.heap.size W w
theorem Wo.below {W w w' : World} {s : Value} {N : Nat} {L : List (Nat × Nat)} {qx : Nat} {x : Nat × Nat} (h : Wo W w s N L qx x) (hb : Below w.heap.size w w') : Wo W w' s N L qx x := ⟨own_below h.own hb, h.x.below hb, h.n, h.d.trans (hb.mono h.d.size)⟩
theorem Wo.drew {W w : World} {s : Value} {N : Nat} {L : List (Nat × Nat)} {qx : Nat} {x : Nat × Nat} (h : Wo W w s N L qx x) : Wo W w.drew s N L qx x := h.below (Below.refl _ _).drew
theorem Wo.alloc {W w : World} {s : Value} {N : Nat} {L : List (Nat × Nat)} {qx : Nat} {x : Nat × Nat} (h : Wo W w s N L qx x) (o : Obj) : Wo W (w.alloc o) s N L qx x := h.below ((Below.refl _ _).alloc (Nat.le_refl _) o)
/-- The row, the element of the point, and the product. -/
structure Wp (W w : World) (g cp N : Nat) (L : List (Nat × Nat)) (qx qz : Nat) (x z : Nat × Nat) : Prop where
  o : Wo W w (.slice (some ⟨g, 0, none⟩) N cp) N L qx x
  z : El w qz z.1 z.2
  n : g ≠ qz
theorem Wp.below {W w w' : World} {g cp N : Nat} {L : List (Nat × Nat)} {qx qz : Nat} {x z : Nat × Nat} (h : Wp W w g cp N L qx qz x z) (hb : Below w.heap.size w w') : Wp W w' g cp N L qx qz x z := ⟨h.o.below hb, h.z.below hb, h.n⟩
theorem Wp.drew {W w : World} {g cp N : Nat} {L : List (Nat × Nat)} {qx qz : Nat} {x z : Nat × Nat} (h : Wp W w g cp N L qx qz x z) : Wp W w.drew g cp N L qx qz x z := h.below (Below.refl _ _).drew
theorem Wp.lt {W w : World} {g cp N : Nat} {L : List (Nat × Nat)} {qx qz : Nat} {x z : Nat × Nat} (h : Wp W w g cp N L qx qz x z) : W.heap.size ≤ g := (h.o.own.lt g rfl).1
theorem Wp.put {W w : World} {g cp N : Nat} {L : List (Nat × Nat)} {qx qz : Nat} {x z : Nat × Nat} (h : Wp W w g cp N L qx qz x z) (i : Nat) (hi : i < L.length) (r : Nat × Nat) :
    Wp W ((w.setCell ⟨g, i * 2, none⟩ (.int .u64 (r.1 : Int))).setCell ⟨g, i * 2 + 1, none⟩ (.int .u64 (r.2 : Int))) g cp N (L.set i r) qx qz x z := by
  have hx : g ≠ qx := fun e => h.o.n (by rw [e]; rfl)
  refine ⟨⟨?_, h.o.x.keepR hx _ _ _ _, h.o.n, (h.o.d.setCell h.lt _).setCell h.lt _⟩, h.z.keepR h.n _ _ _ _, h.n⟩
  have := own_setR (own_setR h.o.own (i * 2) (.int .u64 (r.1 : Nat))) (i * 2 + 1) (.int .u64 (r.2 : Nat))
  rw [flat_put L r i hi] at this
  exact this
/-- The cells of the element i. -/
theorem Wp.facts {W w : World} {g cp N : Nat} {L : List (Nat × Nat)} {qx qz : Nat} {x z : Nat × Nat} (h : Wp W w g cp N L qx qz x z) (i : Nat) (hi : i < N) (hl : L.length = N) :
    w.cell? ⟨g, i * 2, none⟩ = some (.int .u64 ((el L i).1 : Int)) ∧ w.cell? ⟨g, i * 2 + 1, none⟩ = some (.int .u64 ((el L i).2 : Int)) ∧ w.cell? ⟨qz, 0, none⟩ = some (.int .u64 (z.1 : Int)) ∧ w.cell? ⟨qz, 1, none⟩ = some (.int .u64 (z.2 : Int)) := by
  have h1 := (own_cellR h.o.own (i * 2) (by omega)).1
  have h0 := (own_cellR h.o.own (i * 2 + 1) (by omega)).1
  rw [(flat_at L i (by omega)).1] at h1
  rw [(flat_at L i (by omega)).2] at h0
  exact ⟨h1, h0, h.z.hi, h.z.lo⟩
/-- The entries of the row, i of the round j done. -/
def Wji (p : List (Nat × Nat)) (N j i x : Nat) : Nat × Nat := if x < i then wt (p.take (j + 1)) x else if x < N then wt (p.take j) x else wt (p.take (j + 1)) x
theorem el_set {M : List (Nat × Nat)} {i x : Nat} (hi : i < M.length) (r : Nat × Nat) : el (M.set i r) x = if x = i then r else el M x := by
  unfold el
  by_cases h : x = i
  · subst h
    simp [List.getD, hi]
  · rw [if_neg h]
    simp [List.getD, Ne.symm h]
theorem el_end {M : List (Nat × Nat)} {x n : Nat} (hn : M.length = n) (r : Nat × Nat) : el (M ++ [r]) x = if x = n then r else el M x := by
  unfold el
  subst hn
  by_cases h : x = M.length
  · subst h
    simp [List.getD]
  · rw [if_neg h]
    by_cases h2 : x < M.length
    · simp [List.getD, List.getElem?_append_left h2]
    · have h3 : (M ++ [r]).length ≤ x := by simp; omega
      have h4 : M.length ≤ x := by omega
      simp only [List.getD, List.getElem?_eq_none h3, List.getElem?_eq_none h4]
end Go.Proofs.Ytnecjkdlmecgdaa
