/- The contract of cube.Weights over the seat's translation. -/
import Derived.Test.YtccaobfhldfamaaRgA
import Derived.Test.YtccaobfhldfamaaPCbF
import Derived.Test.YtccaobfhldfamaaPeel
import Derived.Deep.OwnRows
import Derived.Maps.AppendAt
namespace Go.Proofs.Ytccaobfhldfamaa
open Go.RowKit
open Cb
open Rg
open Tw (pm)

/-- A store into a row of one's own. -/
theorem own_setR {w : World} {base size g n cap : Nat} {T : TypeId} {xs : List Value} (h : w.ownsRow base T size (.slice (some ⟨g, 0, none⟩) n cap) n xs) (i : Nat) (u : Value) :
    (w.setCell ⟨g, i, none⟩ u).ownsRow base T size (.slice (some ⟨g, 0, none⟩) n cap) n (xs.set i u) := by
  obtain ⟨h1, h2⟩ := h
  refine ⟨by rw [List.length_set]; exact h1, ?_⟩
  rcases h2 with ⟨h3, _⟩ | ⟨g', cap', cur, e, hb, hg, hn, hm, hs, ht⟩
  · injection h3 with h4; cases h4
  · injection e with e1 e2 e3
    obtain rfl : g = g' := by injection e1 with e4; injection e4
    subst e3
    refine .inr ⟨g, cap, cur.setIfInBounds i u, rfl, hb, ?_, hn, hm, by simpa using hs, ?_⟩
    · simp [World.setCell, Array.getElem?_modify, hg]
    · rw [Array.toList_setIfInBounds, List.take_set, ht]
theorem own_cellR {w : World} {base size g n cap : Nat} {T : TypeId} {xs : List Value} (h : w.ownsRow base T size (.slice (some ⟨g, 0, none⟩) n cap) n xs) (i : Nat) (hi : i < n * size) :
    w.cell? ⟨g, i, none⟩ = xs[i]? ∧ w.frozen? ⟨g, i, none⟩ = false := by
  obtain ⟨h1, h2⟩ := h
  rcases h2 with ⟨h3, _⟩ | ⟨g', cap', cur, e, hb, hg, hn, hm, hs, ht⟩
  · injection h3 with h4; cases h4
  · injection e with e1 e2 e3
    obtain rfl : g = g' := by injection e1 with e4; injection e4
    subst ht
    have hlt : i < cur.size := by
      rw [hs]
      exact Nat.lt_of_lt_of_le hi (Nat.mul_le_mul_right _ hn)
    refine ⟨?_, by simp [World.frozen?, hg]⟩
    rw [List.getElem?_take_of_lt hi]
    simp [World.cell?, hg, hlt]
theorem flat_put (es : List (Nat × Nat)) (r : Nat × Nat) : ∀ m, m < es.length → ((flat es).set (m * 2) (.int .u64 (r.1 : Nat))).set (m * 2 + 1) (.int .u64 (r.2 : Nat)) = flat (es.set m r) := by
  induction es with
  | nil => intro m hm; simp at hm
  | cons x es ih =>
    intro m hm
    have ef : ∀ (e : Nat × Nat) l, flat (e :: l) = .int .u64 (e.1 : Int) :: .int .u64 (e.2 : Int) :: flat l := fun e l => by simp [flat]
    cases m with
    | zero => simp [ef]
    | succ m =>
      have := ih m (by simpa using hm)
      rw [List.set_cons_succ, ef, ef, ← this, show (m + 1) * 2 = m * 2 + 1 + 1 by omega, show m * 2 + 1 + 1 + 1 = (m * 2 + 1) + 1 + 1 by omega]
      simp
theorem flat_end (es : List (Nat × Nat)) (r : Nat × Nat) : flat (es ++ [r]) = flat es ++ [.int .u64 (r.1 : Nat), .int .u64 (r.2 : Nat)] := by simp [flat]
/-- make([]T, 1, n). -/
theorem wpList_make_first {P : Program} (w : World) {ops : Array Oper} {rest : List Oper} {o : Oper} {a : Act} {Q : Exit → Act → World → Prop}
    (hg : o.guard = none) (l c : Operand) (t : TypeId) (hop : o.op = Op.makeSlice t l c)
    (base : Nat) (e : TypeId) (i : TypeInfo) (z : Value) (size : Nat) (h1 : P.underlying t = some (.slice e)) (h2 : P.info? e = some i) (h3 : i.zero = some z) (h4 : i.size = size)
    (kl kc : IntKind) (C : Int) (n : Nat) (hl : a.eval l = .int kl 1) (hc : a.eval c = .int kc C) (hC : C = (n : Int)) (h0 : 1 ≤ n) (b2 : i.bytes * n ≤ 281474976710656) (b3 : n ≤ maxLen) (b4 : base ≤ w.heap.size)
    (hK : ∀ w' xs, w'.ownsRow base e size (.slice (some ⟨w.heap.size, 0, none⟩) 1 n) 1 xs → w.grownBy w' none → wpList P ops Q rest (a.put o.dst (.slice (some ⟨w.heap.size, 0, none⟩) 1 n)) w') :
    wpList P ops Q (o :: rest) a w := by
  refine wpList_plain hg fun K hK' => ?_
  subst hC h4
  have h63' : (n : Int) ≤ 9223372036854775807 := by
    have h := b3
    simp [maxLen] at h
    omega
  have hb' : (i.bytes : Int) * (n : Int) ≤ 281474976710656 := by
    have h : ((i.bytes * n : Nat) : Int) ≤ 281474976710656 := by omega
    rwa [Int.natCast_mul] at h
  have hr := run_make (P := P) w t e i z h1 h2 h3 kl kc 1 n (by decide) (by omega) hb' h63'
  simp only [Int.toNat_natCast] at hr
  have hr2 : (Instr.makeSlice t (.int kl 1) (.int kc (n : Int))).run P w = .ok (.slice (some ⟨w.heap.size, 0, none⟩) 1 n) (w.alloc (.cells (madeCells z.cells (n * i.size)) e)) := hr
  unfold Oper.wp
  simp [execOp, hop, hl, hc, hr2, Result.andThen]
  refine hK' _ _ (hK _ ((madeCells z.cells (n * i.size)).toList.take (1 * i.size)) ⟨?_, .inr ⟨w.heap.size, n, madeCells z.cells (n * i.size), rfl, b4, heap_alloc_new w _, h0, b3, size_madeCells _ _, rfl⟩⟩ (World.grownBy_alloc w _ none))
  rw [List.length_take, Array.length_toList, size_madeCells]
  have : i.size ≤ n * i.size := Nat.le_mul_of_pos_left _ h0
  omega
theorem two_vals {xs : List Value} (h : xs.length = 1 * 2) : ∃ a b, xs = [a, b] := by
  match xs, h with
  | [a, b], _ => exact ⟨a, b, rfl⟩
theorem El.keepR {w : World} {b c h l : Nat} (e : El w c h l) (hn : b ≠ c) (o o' : Nat) (u v : Value) : El ((w.setCell ⟨b, o, none⟩ u).setCell ⟨b, o', none⟩ v) c h l := by
  obtain ⟨h1, h2⟩ := e
  have hn' : c ≠ b := fun h => hn h.symm
  exact ⟨by simp [go_sem, *], by simp [go_sem, *]⟩
theorem El.growR {w w' : World} {q h l : Nat} {ob : Option Nat} (hg : w.grownBy w' ob) (e : El w q h l) (hne : ob ≠ some q) : El w' q h l := by
  have hb := hg.block q e.lt (fun h => hne h.symm)
  exact ⟨by rw [← e.hi]; simp [World.cell?, hb], by rw [← e.lo]; simp [World.cell?, hb]⟩
theorem Ew.roomR (w : World) (T : TypeId) : Ew (w.alloc (Obj.cells #[.int .u64 0, .int .u64 0] T)) w.heap.size 0 0 := ⟨⟨by simp [go_sem], by simp [go_sem]⟩, by simp [go_sem], by simp [go_sem]⟩
theorem El.newR (w : World) (v : Nat × Nat) (T : TypeId) : El (w.alloc (Obj.cells #[.int .u64 (v.1 : Int), .int .u64 (v.2 : Int)] T)) w.heap.size v.1 v.2 := ⟨by simp [go_sem], by simp [go_sem]⟩
/-- The row that grows, and the element of the point. -/
structure Wo (W w : World) (s : Value) (N : Nat) (L : List (Nat × Nat)) (qx : Nat) (x : Nat × Nat) : Prop where
  own : w.ownsRow W.heap.size 44 2 s N (flat L)
  x : El w qx x.1 x.2
  n : s.ownBlock ≠ some qx
  d : Below W.heap.size W w
theorem Wo.below {W w w' : World} {s : Value} {N : Nat} {L : List (Nat × Nat)} {qx : Nat} {x : Nat × Nat} (h : Wo W w s N L qx x) (hb : Below w.heap.size w w') : Wo W w' s N L qx x := ⟨own_below h.own hb, h.x.below hb, h.n, h.d.trans (hb.mono h.d.size)⟩
theorem Wo.drew {W w : World} {s : Value} {N : Nat} {L : List (Nat × Nat)} {qx : Nat} {x : Nat × Nat} (h : Wo W w s N L qx x) : Wo W w.drew s N L qx x := h.below (Below.refl _ _).drew
theorem Wo.alloc {W w : World} {s : Value} {N : Nat} {L : List (Nat × Nat)} {qx : Nat} {x : Nat × Nat} (h : Wo W w s N L qx x) (o : Obj) : Wo W (w.alloc o) s N L qx x := h.below ((Below.refl _ _).alloc (Nat.le_refl _) o)
/-- The row, the element of the point, and the product. -/
structure Wp (W w : World) (g cp N : Nat) (L : List (Nat × Nat)) (qx qz : Nat) (x z : Nat × Nat) : Prop where
  o : Wo W w (.slice (some ⟨g, 0, none⟩) N cp) N L qx x
  z : El w qz z.1 z.2
  n : g ≠ qz
theorem Wp.below {W w w' : World} {g cp N : Nat} {L : List (Nat × Nat)} {qx qz : Nat} {x z : Nat × Nat} (h : Wp W w g cp N L qx qz x z) (hb : Below w.heap.size w w') : Wp W w' g cp N L qx qz x z := ⟨h.o.below hb, h.z.below hb, h.n⟩
theorem Wp.drew {W w : World} {g cp N : Nat} {L : List (Nat × Nat)} {qx qz : Nat} {x z : Nat × Nat} (h : Wp W w g cp N L qx qz x z) : Wp W w.drew g cp N L qx qz x z := h.below (Below.refl _ _).drew
theorem Wp.lt {W w : World} {g cp N : Nat} {L : List (Nat × Nat)} {qx qz : Nat} {x z : Nat × Nat} (h : Wp W w g cp N L qx qz x z) : W.heap.size ≤ g := (h.o.own.lt g rfl).1
theorem Wp.put {W w : World} {g cp N : Nat} {L : List (Nat × Nat)} {qx qz : Nat} {x z : Nat × Nat} (h : Wp W w g cp N L qx qz x z) (i : Nat) (hi : i < L.length) (r : Nat × Nat) :
    Wp W ((w.setCell ⟨g, i * 2, none⟩ (.int .u64 (r.1 : Int))).setCell ⟨g, i * 2 + 1, none⟩ (.int .u64 (r.2 : Int))) g cp N (L.set i r) qx qz x z := by
  have hx : g ≠ qx := fun e => h.o.n (by rw [e]; rfl)
  refine ⟨⟨?_, h.o.x.keepR hx _ _ _ _, h.o.n, (h.o.d.setCell h.lt _).setCell h.lt _⟩, h.z.keepR h.n _ _ _ _, h.n⟩
  have := own_setR (own_setR h.o.own (i * 2) (.int .u64 (r.1 : Nat))) (i * 2 + 1) (.int .u64 (r.2 : Nat))
  rw [flat_put L r i hi] at this
  exact this
/-- The cells of the element i. -/
theorem Wp.facts {W w : World} {g cp N : Nat} {L : List (Nat × Nat)} {qx qz : Nat} {x z : Nat × Nat} (h : Wp W w g cp N L qx qz x z) (i : Nat) (hi : i < N) (hl : L.length = N) :
    w.cell? ⟨g, i * 2, none⟩ = some (.int .u64 ((el L i).1 : Int)) ∧ w.cell? ⟨g, i * 2 + 1, none⟩ = some (.int .u64 ((el L i).2 : Int)) ∧ w.cell? ⟨qz, 0, none⟩ = some (.int .u64 (z.1 : Int)) ∧ w.cell? ⟨qz, 1, none⟩ = some (.int .u64 (z.2 : Int)) := by
  have h1 := (own_cellR h.o.own (i * 2) (by omega)).1
  have h0 := (own_cellR h.o.own (i * 2 + 1) (by omega)).1
  rw [(flat_at L i (by omega)).1] at h1
  rw [(flat_at L i (by omega)).2] at h0
  exact ⟨h1, h0, h.z.hi, h.z.lo⟩
/-- The entries of the row, i of the round j done. -/
def Wji (p : List (Nat × Nat)) (N j i x : Nat) : Nat × Nat := if x < i then wt (p.take (j + 1)) x else if x < N then wt (p.take j) x else wt (p.take (j + 1)) x
theorem el_set {M : List (Nat × Nat)} {i x : Nat} (hi : i < M.length) (r : Nat × Nat) : el (M.set i r) x = if x = i then r else el M x := by
  unfold el
  by_cases h : x = i
  · subst h
    simp [List.getD, hi]
  · rw [if_neg h]
    simp [List.getD, Ne.symm h]
theorem el_end {M : List (Nat × Nat)} {x n : Nat} (hn : M.length = n) (r : Nat × Nat) : el (M ++ [r]) x = if x = n then r else el M x := by
  unfold el
  subst hn
  by_cases h : x = M.length
  · subst h
    simp [List.getD]
  · rw [if_neg h]
    by_cases h2 : x < M.length
    · simp [List.getD, List.getElem?_append_left h2]
    · have h3 : (M ++ [r]).length ≤ x := by simp; omega
      have h4 : M.length ≤ x := by omega
      simp only [List.getD, List.getElem?_eq_none h3, List.getElem?_eq_none h4]
end Go.Proofs.Ytccaobfhldfamaa

/- The contract of span.Turn over the seat's translation. -/
namespace Go.Proofs.Ytccaobfhldfamaa
open Go.RowKit
open Cb
open Rg
open Tw (pm)

/-- A row of elements that is filled, in the first block behind a world. -/
structure Tn (W w : World) (N : Nat) (h : Nat → Nat × Nat) : Prop where
  row : w.rowIs W.heap.size 44 (N * 2) (tcell h)
  d : Below W.heap.size W w
theorem Tn.below {W w w' : World} {N : Nat} {h : Nat → Nat × Nat} (k : Tn W w N h) (hb : Below w.heap.size w w') : Tn W w' N h := ⟨k.row.of_block (hb.block _ k.row.lt), k.d.trans (hb.mono k.d.size)⟩
theorem Tn.drew {W w : World} {N : Nat} {h : Nat → Nat × Nat} (k : Tn W w N h) : Tn W w.drew N h := k.below (Below.refl _ _).drew
theorem Tn.like {W w : World} {N : Nat} {h h' : Nat → Nat × Nat} (k : Tn W w N h) (e : ∀ c, c < N → h c = h' c) : Tn W w N h' := by
  obtain ⟨⟨cs, h1, h2, h3⟩, d⟩ := k
  refine ⟨⟨cs, h1, h2, fun i hi => ?_⟩, d⟩
  rw [h3 i hi]
  unfold tcell
  rw [e (i / 2) (by omega)]
theorem Tn.put {W w : World} {N : Nat} {h : Nat → Nat × Nat} (k : Tn W w N h) (j : Nat) (r : Nat × Nat) (h' : Nat → Nat × Nat) (e : ∀ c, c < N → h' c = if c = j then r else h c) :
    Tn W ((w.setCell ⟨W.heap.size, j * 2, none⟩ (.int .u64 (r.1 : Int))).setCell ⟨W.heap.size, j * 2 + 1, none⟩ (.int .u64 (r.2 : Int))) N h' := by
  refine ⟨?_, (k.d.setCell (Nat.le_refl _) _).setCell (Nat.le_refl _) _⟩
  obtain ⟨cs, h1, h2, h3⟩ := (k.row.set (j * 2) (.int .u64 (r.1 : Int))).set (j * 2 + 1) (.int .u64 (r.2 : Int))
  refine ⟨cs, h1, h2, fun i hi => ?_⟩
  rw [h3 i hi]
  unfold tcell
  rw [e (i / 2) (by omega)]
  dsimp only
  by_cases c1 : i = j * 2 + 1
  · rw [if_pos c1, if_neg (show ¬ i % 2 = 0 by omega), if_pos (show i / 2 = j by omega)]
  · rw [if_neg c1]
    by_cases c2 : i = j * 2
    · rw [if_pos c2, if_pos (show i % 2 = 0 by omega), if_pos (show i / 2 = j by omega)]
    · rw [if_neg c2, if_neg (show ¬ i / 2 = j by omega)]
theorem Tn.facts {W w : World} {N : Nat} {h : Nat → Nat × Nat} (k : Tn W w N h) (j : Nat) (hj : j < N) :
    w.cell? ⟨W.heap.size, j * 2, none⟩ = some (.int .u64 ((h j).1 : Int)) ∧ w.cell? ⟨W.heap.size, j * 2 + 1, none⟩ = some (.int .u64 ((h j).2 : Int)) ∧ w.frozen? ⟨W.heap.size, j * 2, none⟩ = false ∧ w.frozen? ⟨W.heap.size, j * 2 + 1, none⟩ = false := by
  have c1 := k.row.cell (i := j * 2) (by omega)
  have c0 := k.row.cell (i := j * 2 + 1) (by omega)
  unfold tcell at c1 c0
  rw [if_pos (by omega), show j * 2 / 2 = j by omega] at c1
  rw [if_neg (by omega), show (j * 2 + 1) / 2 = j by omega] at c0
  exact ⟨c1, c0, k.row.frozen _, k.row.frozen _⟩
theorem Tn.start {W w : World} {base N : Nat} (h : w.ownsRow base 44 2 (.slice (some ⟨W.heap.size, 0, none⟩) N N) N (madeCells (Value.agg #[.int .u64 0, .int .u64 0]).cells (N * 2)).toList) (hg : W.grownBy w none) (F : Nat → Nat × Nat) (hF : ∀ c, c < N → F c = (0, 0)) : Tn W w N F := by
  obtain ⟨f, ⟨cs, h1, h2, h3⟩, hz⟩ := own_zero h
  refine ⟨⟨cs, h1, h2, fun i hi => ?_⟩, (Below.refl _ _).grown hg (Nat.le_refl _) (fun k hk => by cases hk)⟩
  rw [h3 i hi, hz i hi]
  unfold tcell
  rw [hF (i / 2) (by omega)]
  split <;> rfl
theorem Tn.erow {W w : World} {N : Nat} {h : Nat → Nat × Nat} (k : Tn W w N h) {es : List (Nat × Nat)} (hl : es.length = N) (e : ∀ c, c < N → el es c = h c) : ERow w (some ⟨W.heap.size, 0, none⟩) es := row_tab hl k.row fun p hp => by
  unfold tcell
  rw [e (p / 2) (by omega)]
/-- The row that is turned, i elements done. -/
def tr (ps : List (Nat × Nat)) (i c : Nat) : Nat × Nat := xs i fun v => sl (hs (el ps v) c) (bv (v : Int))
theorem lt_tr (ps : List (Nat × Nat)) (i c : Nat) : lt2 (tr ps i c) := lt_xs (fun _ => lt_sl (bv_lt2 _)) _
def trj (ps : List (Nat × Nat)) (i j c : Nat) : Nat × Nat := if c < j then tr ps (i + 1) c else tr ps i c
end Go.Proofs.Ytccaobfhldfamaa
