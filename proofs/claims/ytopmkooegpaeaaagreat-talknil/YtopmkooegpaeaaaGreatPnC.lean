/- The document's tables, rounds and ways of layer 10, and the walk of PermWays, over the seat's translation. -/
import Derived.Test.YtopmkooegpaeaaaGreatPmH
import Derived.Test.YtopmkooegpaeaaaGreatPeel
import Derived.Deep.SlicePairs
import Derived.Maps.AppendAt
import Derived.Test.YtopmkooegpaeaaaGreatPmX
import Derived.Test.YtopmkooegpaeaaaGreatPmZ
import Derived.Test.YtopmkooegpaeaaaGreatPnA
namespace Go.Proofs.YtopmkooegpaeaaaGreat
open Go.RowKit

theorem info_i64 : ∃ i, Tryz.prog.info? 3 = some i ∧ i.zero = some (.int .i64 0) ∧ i.size = 1 ∧ i.bytes = 8 := by
  have h : (Tryz.prog.info? 3).map (fun i => (i.zero, i.size, i.bytes)) = some (some (.int .i64 0), 1, 8) := by kernel_rfl
  cases hi : Tryz.prog.info? 3 with
  | none => rw [hi] at h; cases h
  | some i =>
    rw [hi] at h
    simp at h
    exact ⟨i, rfl, h.1, h.2.1, h.2.2⟩
/-- Numbers as cells. -/
def ints (f : Nat → Nat) (n : Nat) : List Value := (List.range n).map fun i => .int .i64 (f i : Nat)
theorem ints_len (f : Nat → Nat) (n : Nat) : (ints f n).length = n := by unfold ints; simp
theorem ints_succ (f : Nat → Nat) (n : Nat) : ints f (n + 1) = ints f n ++ [.int .i64 (f n : Nat)] := by unfold ints; rw [List.range_succ, List.map_append]; rfl
theorem ints_get (f : Nat → Nat) (n i : Nat) (h : i < n) : (ints f n)[i]? = some (.int .i64 (f i : Nat)) := by unfold ints; simp [h]
/-- Numbers that lie in a block of their own. -/
structure Irow (w : World) (g n : Nat) (f : Nat → Nat) : Prop where
  lt : g < w.heap.size
  cell : ∀ i, i < n → w.cell? ⟨g, i, none⟩ = some (.int .i64 (f i : Nat))
theorem Irow.below {w w' : World} {g n : Nat} {f : Nat → Nat} (h : Irow w g n f) (hb : Below w.heap.size w w') : Irow w' g n f :=
  ⟨Nat.lt_of_lt_of_le h.lt hb.size, fun i hi => by rw [hb.cell (p := ⟨g, i, none⟩) h.lt]; exact h.cell i hi⟩
theorem irow_own {w : World} {base : Nat} {T : TypeId} {v : Value} {n : Nat} {f : Nat → Nat} (hn : 0 < n) (h : w.ownsRow base T 1 v n (ints f n)) : ∃ g cap, v = .slice (some ⟨g, 0, none⟩) n cap ∧ base ≤ g ∧ Irow w g n f := by
  obtain ⟨h1, h2⟩ := h
  rcases h2 with ⟨_, h3⟩ | ⟨g, cap, cur, rfl, hb, hg, hn2, _, hs, ht⟩
  · omega
  · refine ⟨g, cap, rfl, hb, (Array.getElem?_eq_some_iff.1 hg).1, fun i hi => ?_⟩
    have hlt : i < cur.size := by omega
    have e : cur.toList[i]? = (ints f n)[i]? := by rw [← ht, List.getElem?_take_of_lt (by omega)]
    rw [ints_get f n i hi] at e
    simp only [World.cell?, hg]
    simpa using e
/-- What lies in memory while the boxes are made. -/
structure Mk1 (W w : World) (vB : Value) (i : Nat) : Prop where
  r0 : w.cell? ⟨W.heap.size, 0, none⟩ = some (.slice none 0 0)
  r1 : w.cell? ⟨W.heap.size, 1, none⟩ = some (.slice none 0 0)
  g0 : w.frozen? ⟨W.heap.size, 0, none⟩ = false
  g1 : w.frozen? ⟨W.heap.size, 1, none⟩ = false
  c0 : w.cell? ⟨W.heap.size + 1, 0, none⟩ = some vB
  c1 : w.cell? ⟨W.heap.size + 1, 1, none⟩ = some (.slice none 0 0)
  f0 : w.frozen? ⟨W.heap.size + 1, 0, none⟩ = false
  f1 : w.frozen? ⟨W.heap.size + 1, 1, none⟩ = false
  o : w.ownsRow (W.heap.size + 1 + 1) 3 1 vB i (ints bx i)
  d : Below W.heap.size W w
theorem Mk1.below {W w w' : World} {vB : Value} {i : Nat} (h : Mk1 W w vB i) (k : Below w.heap.size w w') : Mk1 W w' vB i :=
  ⟨keepc k h.r0, keepc k h.r1, keepf k h.r0 h.g0, keepf k h.r1 h.g1, keepc k h.c0, keepc k h.c1, keepf k h.c0 h.f0, keepf k h.c1 h.f1, own_below h.o k, h.d.trans (k.mono h.d.size)⟩
theorem Mk1.drew {W w : World} {vB : Value} {i : Nat} (h : Mk1 W w vB i) : Mk1 W w.drew vB i := ⟨h.r0, h.r1, h.g0, h.g1, h.c0, h.c1, h.f0, h.f1, h.o, h.d.drew⟩
/-- Behind an append, and the store of what came of it. -/
theorem Mk1.next {W w w' : World} {vB v' : Value} {i : Nat} (h : Mk1 W w vB i) (hg : w.grownBy w' vB.ownBlock) (ho : w'.ownsRow (W.heap.size + 1 + 1) 3 1 v' (i + 1) (ints bx (i + 1))) : Mk1 W (w'.setCell ⟨W.heap.size + 1, 0, none⟩ v') v' (i + 1) ∧ w'.cell? ⟨W.heap.size + 1, 0, none⟩ = some vB ∧ w'.frozen? ⟨W.heap.size + 1, 0, none⟩ = false := by
  have hlt : W.heap.size + 1 < w.heap.size := cell_lt h.c0
  have hrow : ∀ k, vB.ownBlock = some k → W.heap.size + 1 + 1 ≤ k := fun k hk => by
    obtain ⟨_, h2⟩ := h.o
    rcases h2 with ⟨rfl, _⟩ | ⟨g, cap, cur, rfl, hb, _⟩
    · cases hk
    · simp [Value.ownBlock] at hk
      omega
  have e0 : w'.heap[W.heap.size]? = w.heap[W.heap.size]? := hg.block _ (by omega) (fun e => by have := hrow _ e.symm; omega)
  have e1 : w'.heap[W.heap.size + 1]? = w.heap[W.heap.size + 1]? := hg.block _ hlt (fun e => by have := hrow _ e.symm; omega)
  have x0 : ∀ j, w'.cell? ⟨W.heap.size, j, none⟩ = w.cell? ⟨W.heap.size, j, none⟩ := fun j => World.cell?_of_block e0
  have y0 : ∀ j, w'.frozen? ⟨W.heap.size, j, none⟩ = w.frozen? ⟨W.heap.size, j, none⟩ := fun j => World.frozen?_of_block e0
  have x1' : ∀ j, w'.cell? ⟨W.heap.size + 1, j, none⟩ = w.cell? ⟨W.heap.size + 1, j, none⟩ := fun j => World.cell?_of_block e1
  have y1 : ∀ j, w'.frozen? ⟨W.heap.size + 1, j, none⟩ = w.frozen? ⟨W.heap.size + 1, j, none⟩ := fun j => World.frozen?_of_block e1
  have D : Below W.heap.size W w' := h.d.grown hg h.d.size (fun k hk => by have := hrow k hk; omega)
  refine ⟨⟨?_, ?_, ?_, ?_, ?_, ?_, ?_, ?_, ?_, D.setCell (Nat.le_succ _) _⟩, by rw [x1']; exact h.c0, by rw [y1]; exact h.f0⟩
  · simp [go_sem, x0, h.r0]
  · simp [go_sem, x0, h.r1]
  · simp [go_sem, y0, h.g0]
  · simp [go_sem, y0, h.g1]
  · simp [go_sem, x1', h.c0]
  · simp [go_sem, x1', h.c1]
  · simp [go_sem, y1, h.f0]
  · simp [go_sem, y1, h.f1]
  · exact ownsRow_setCell_below ho (by show W.heap.size + 1 < W.heap.size + 1 + 1; omega) _
theorem info_sl : ∃ i, Tryz.prog.info? 28 = some i ∧ i.zero = some (.slice none 0 0) ∧ i.size = 1 ∧ i.bytes = 24 := by
  have h : (Tryz.prog.info? 28).map (fun i => (i.zero, i.size, i.bytes)) = some (some (.slice none 0 0), 1, 24) := by kernel_rfl
  cases hi : Tryz.prog.info? 28 with
  | none => rw [hi] at h; cases h
  | some i =>
    rw [hi] at h
    simp at h
    exact ⟨i, rfl, h.1, h.2.1, h.2.2⟩
/-- Rows of 256 as cells. -/
def slcs (gs cs : Nat → Nat) (k : Nat) : List Value := (List.range k).map fun j => .slice (some ⟨gs j, 0, none⟩) 256 (cs j)
theorem slcs_succ {gs cs : Nat → Nat} {k g c : Nat} : slcs (upd gs k g) (upd cs k c) (k + 1) = slcs gs cs k ++ [.slice (some ⟨g, 0, none⟩) 256 c] := by
  unfold slcs
  rw [List.range_succ, List.map_append]
  congr 1
  · refine List.map_congr_left fun j hj => ?_
    have : j < k := by simpa using hj
    unfold upd
    rw [if_neg (by omega), if_neg (by omega)]
  · simp [upd]
/-- What lies in memory while the products are made. -/
structure Mk2 (W w : World) (gB cB : Nat) (vT : Value) (k : Nat) (gs cs : Nat → Nat) : Prop where
  r0 : w.cell? ⟨W.heap.size, 0, none⟩ = some (.slice none 0 0)
  r1 : w.cell? ⟨W.heap.size, 1, none⟩ = some (.slice none 0 0)
  g0 : w.frozen? ⟨W.heap.size, 0, none⟩ = false
  g1 : w.frozen? ⟨W.heap.size, 1, none⟩ = false
  c0 : w.cell? ⟨W.heap.size + 1, 0, none⟩ = some (.slice (some ⟨gB, 0, none⟩) 256 cB)
  c1 : w.cell? ⟨W.heap.size + 1, 1, none⟩ = some vT
  f1 : w.frozen? ⟨W.heap.size + 1, 1, none⟩ = false
  b : Irow w gB 256 bx
  lb : W.heap.size + 1 + 1 ≤ gB
  nb : vT.ownBlock ≠ some gB
  rows : ∀ j, j < k → Irow w (gs j) 256 (tmul j)
  lr : ∀ j, j < k → W.heap.size + 1 + 1 ≤ gs j
  nr : ∀ j, j < k → vT.ownBlock ≠ some (gs j)
  o : w.ownsRow (W.heap.size + 1 + 1) 28 1 vT k (slcs gs cs k)
  d : Below W.heap.size W w
theorem Mk2.below {W w w' : World} {gB cB : Nat} {vT : Value} {k : Nat} {gs cs : Nat → Nat} (h : Mk2 W w gB cB vT k gs cs) (q : Below w.heap.size w w') : Mk2 W w' gB cB vT k gs cs :=
  ⟨keepc q h.r0, keepc q h.r1, keepf q h.r0 h.g0, keepf q h.r1 h.g1, keepc q h.c0, keepc q h.c1, keepf q h.c1 h.f1, h.b.below q, h.lb, h.nb, fun j hj => (h.rows j hj).below q, h.lr, h.nr, own_below h.o q, h.d.trans (q.mono h.d.size)⟩
theorem Irow.block {w w' : World} {g n : Nat} {f : Nat → Nat} (h : Irow w g n f) (e : w'.heap[g]? = w.heap[g]?) (hs : w.heap.size ≤ w'.heap.size) : Irow w' g n f :=
  ⟨Nat.lt_of_lt_of_le h.lt hs, fun i hi => by rw [World.cell?_of_block (w := w) (a := ⟨g, i, none⟩) e]; exact h.cell i hi⟩
theorem Irow.setOther {w : World} {g n p o : Nat} {f : Nat → Nat} (h : Irow w g n f) (hne : g ≠ p) (v : Value) : Irow (w.setCell ⟨p, o, none⟩ v) g n f :=
  ⟨by simpa [go_sem] using h.lt, fun i hi => by rw [World.cell?_setCell_far w ⟨p, o, none⟩ ⟨g, i, none⟩ v (fun e => hne e.symm)]; exact h.cell i hi⟩
/-- Behind an append of a row, and the store of what came of it. -/
theorem Mk2.next {W w w' : World} {gB cB : Nat} {vT v' : Value} {k : Nat} {gs cs : Nat → Nat} (h : Mk2 W w gB cB vT k gs cs) {g c : Nat} (hr : Irow w g 256 (tmul k)) (hl : W.heap.size + 1 + 1 ≤ g) (hne : vT.ownBlock ≠ some g) (hg : w.grownBy w' vT.ownBlock)
    (ho : w'.ownsRow (W.heap.size + 1 + 1) 28 1 v' (k + 1) (slcs gs cs k ++ [.slice (some ⟨g, 0, none⟩) 256 c])) (hv : v'.ownBlock = vT.ownBlock ∨ v'.ownBlock = some w.heap.size) :
    Mk2 W (w'.setCell ⟨W.heap.size + 1, 1, none⟩ v') gB cB v' (k + 1) (upd gs k g) (upd cs k c) ∧ w'.cell? ⟨W.heap.size + 1, 1, none⟩ = some vT ∧ w'.frozen? ⟨W.heap.size + 1, 1, none⟩ = false := by
  have hlt : W.heap.size + 1 < w.heap.size := cell_lt h.c0
  have hrow : ∀ k, vT.ownBlock = some k → W.heap.size + 1 + 1 ≤ k := fun k hk => by
    obtain ⟨_, h2⟩ := h.o
    rcases h2 with ⟨rfl, _⟩ | ⟨g, cap, cur, rfl, hb, _⟩
    · cases hk
    · simp [Value.ownBlock] at hk
      omega
  have e0 : w'.heap[W.heap.size]? = w.heap[W.heap.size]? := hg.block _ (by omega) (fun e => by have := hrow _ e.symm; omega)
  have e1 : w'.heap[W.heap.size + 1]? = w.heap[W.heap.size + 1]? := hg.block _ hlt (fun e => by have := hrow _ e.symm; omega)
  have z0 : ∀ j, w'.cell? ⟨W.heap.size, j, none⟩ = w.cell? ⟨W.heap.size, j, none⟩ := fun j => World.cell?_of_block e0
  have y0 : ∀ j, w'.frozen? ⟨W.heap.size, j, none⟩ = w.frozen? ⟨W.heap.size, j, none⟩ := fun j => World.frozen?_of_block e0
  have z1 : ∀ j, w'.cell? ⟨W.heap.size + 1, j, none⟩ = w.cell? ⟨W.heap.size + 1, j, none⟩ := fun j => World.cell?_of_block e1
  have y1 : ∀ j, w'.frozen? ⟨W.heap.size + 1, j, none⟩ = w.frozen? ⟨W.heap.size + 1, j, none⟩ := fun j => World.frozen?_of_block e1
  have D : Below W.heap.size W w' := h.d.grown hg h.d.size (fun k hk => by have := hrow k hk; omega)
  have nn : ∀ q, q < w.heap.size → vT.ownBlock ≠ some q → v'.ownBlock ≠ some q := fun q hq hn e => by
    rcases hv with hv | hv
    · rw [hv] at e; exact hn e
    · rw [hv] at e; injection e; omega
  have ib : ∀ {q n : Nat} {f : Nat → Nat}, Irow w q n f → vT.ownBlock ≠ some q → W.heap.size + 1 + 1 ≤ q → Irow (w'.setCell ⟨W.heap.size + 1, 1, none⟩ v') q n f := fun hi hn hq => (hi.block (hg.block _ hi.lt (fun e => hn e.symm)) hg.size).setOther (by omega) _
  refine ⟨⟨?_, ?_, ?_, ?_, ?_, ?_, ?_, ib h.b h.nb h.lb, h.lb, nn gB h.b.lt h.nb, fun j hj => ?_, fun j hj => ?_, fun j hj => ?_, ?_, D.setCell (Nat.le_succ _) _⟩, by rw [z1]; exact h.c1, by rw [y1]; exact h.f1⟩
  · simp [go_sem, z0, h.r0]
  · simp [go_sem, z0, h.r1]
  · simp [go_sem, y0, h.g0]
  · simp [go_sem, y0, h.g1]
  · simp [go_sem, z1, h.c0]
  · simp [go_sem, z1, h.c1]
  · simp [go_sem, y1, h.f1]
  · unfold upd
    by_cases e : j = k
    · rw [if_pos e, e]; exact ib hr hne hl
    · rw [if_neg e]; exact ib (h.rows j (by omega)) (h.nr j (by omega)) (h.lr j (by omega))
  · unfold upd
    by_cases e : j = k
    · rw [if_pos e]; exact hl
    · rw [if_neg e]; exact h.lr j (by omega)
  · unfold upd
    by_cases e : j = k
    · rw [if_pos e]; exact nn g hr.lt hne
    · rw [if_neg e]; exact nn _ (h.rows j (by omega)).lt (h.nr j (by omega))
  · rw [slcs_succ]
    exact ownsRow_setCell_below ho (by show W.heap.size + 1 < W.heap.size + 1 + 1; omega) _
theorem own_slc {w : World} {base : Nat} {T : TypeId} {v : Value} {n : Nat} {xs : List Value} (hn : 0 < n) (h : w.ownsRow base T 1 v n xs) : ∃ g cap, v = .slice (some ⟨g, 0, none⟩) n cap := by
  obtain ⟨_, h2⟩ := h
  rcases h2 with ⟨_, h3⟩ | ⟨g, cap, cur, rfl, _⟩
  · omega
  · exact ⟨g, cap, rfl⟩
/-- The document's tables: the boxes at gB, the rows of products behind gT. -/
structure RTab (w : World) (gB gT : Nat) (gs cs : Nat → Nat) : Prop where
  b : Irow w gB 256 bx
  lt : gT < w.heap.size
  t : ∀ k, k < 8 → w.cell? ⟨gT, k, none⟩ = some (.slice (some ⟨gs k, 0, none⟩) 256 (cs k))
  r : ∀ k, k < 8 → Irow w (gs k) 256 (tmul k)
theorem RTab.below {w w' : World} {gB gT : Nat} {gs cs : Nat → Nat} (h : RTab w gB gT gs cs) (q : Below w.heap.size w w') : RTab w' gB gT gs cs :=
  ⟨h.b.below q, Nat.lt_of_lt_of_le h.lt q.size, fun k hk => keepc q (h.t k hk), fun k hk => (h.r k hk).below q⟩
theorem RTab.drew {w : World} {gB gT : Nat} {gs cs : Nat → Nat} (h : RTab w gB gT gs cs) : RTab w.drew gB gT gs cs := ⟨⟨h.b.lt, h.b.cell⟩, h.lt, h.t, fun k hk => ⟨(h.r k hk).lt, (h.r k hk).cell⟩⟩
theorem rtab_of {W w : World} {gB cB : Nat} {vT : Value} {gs cs : Nat → Nat} (h : Mk2 W w gB cB vT 8 gs cs) : ∃ gT cT, vT = .slice (some ⟨gT, 0, none⟩) 8 cT ∧ W.heap.size + 1 + 1 ≤ gT ∧ RTab w gB gT gs cs := by
  obtain ⟨h1, h2⟩ := h.o
  rcases h2 with ⟨_, h3⟩ | ⟨g, cap, cur, rfl, hb, hg, hn2, _, hs, ht⟩
  · omega
  · refine ⟨g, cap, rfl, hb, h.b, (Array.getElem?_eq_some_iff.1 hg).1, fun k hk => ?_, h.rows⟩
    have hlt : k < cur.size := by omega
    have e : cur.toList[k]? = (slcs gs cs 8)[k]? := by rw [← ht, List.getElem?_take_of_lt (by omega)]
    rw [show (slcs gs cs 8)[k]? = some (.slice (some ⟨gs k, 0, none⟩) 256 (cs k)) by unfold slcs; simp [hk]] at e
    simp only [World.cell?, hg]
    simpa using e
theorem RTab.setLow {w : World} {gB gT B o : Nat} {gs cs : Nat → Nat} (h : RTab w gB gT gs cs) (v : Value) (h1 : gB ≠ B) (h2 : gT ≠ B) (h3 : ∀ k, k < 8 → gs k ≠ B) : RTab (w.setCell ⟨B, o, none⟩ v) gB gT gs cs :=
  ⟨h.b.setOther h1 v, by simpa [go_sem] using h.lt, fun k hk => by rw [World.cell?_setCell_far w ⟨B, o, none⟩ ⟨gT, k, none⟩ v (fun e => h2 e.symm)]; exact h.t k hk, fun k hk => (h.r k hk).setOther (h3 k hk) v⟩
/-- The document's tables are made. -/
def RMade (W : World) (e : Ending) (w' : World) : Prop := ∃ gB cB gT cT gs cs, e = .returned (.agg #[.slice (some ⟨gB, 0, none⟩) 256 cB, .slice (some ⟨gT, 0, none⟩) 8 cT]) ∧ RTab w' gB gT gs cs ∧ Below W.heap.size W w'
set_option maxHeartbeats 6400000 in
set_option maxRecDepth 100000 in
theorem rmake_any (W : World) : Calls Tryz.prog 11 #[] W fun e w' => RMade W e w' := by
  obtain ⟨i0, hi0, hz0, hz1, hz2⟩ := info_i64
  have HN : Hid (Tryz.prog.info? 3 = some i0 ∧ i0.zero = some (.int .i64 0) ∧ i0.size = 1 ∧ i0.bytes = 8) := ⟨hi0, hz0, hz1, hz2⟩
  clear hi0 hz0 hz1 hz2
  have M0 : Hid (Mk1 W ((W.alloc (Obj.cells #[.slice none 0 0, .slice none 0 0] 31)).alloc (Obj.cells #[.slice none 0 0, .slice none 0 0] 31)) (.slice none 0 0) 0) := ⟨by simp [go_sem], by simp [go_sem], by simp [go_sem], by simp [go_sem], by simp [go_sem], by simp [go_sem], by simp [go_sem], by simp [go_sem], World.ownsRow_nil _ _ _ _, by go_grown⟩
  go_enter Tryz.func11, Tryz.ntmps11
  go_wp2
  generalize ((W.alloc (Obj.cells #[.slice none 0 0, .slice none 0 0] 31)).alloc (Obj.cells #[.slice none 0 0, .slice none 0 0] 31)) = w0 at *
  go_loopw [2] (fun u wr => ∃ (i : Nat) (vB : Value), i ≤ 256 ∧ u = .int .i64 i ∧ Hid (Mk1 W wr vB i)) (fun u _ => 256 - (intOf u).toNat)
  case atStart => exact ⟨0, _, by omega, rfl, M0⟩
  case round =>
    obtain ⟨i, vB, hi, rfl, M1⟩ := hrel
    clear M0
    by_cases hil : i < 256
    · have HX : Hid (Ret 28 #[.int .i64 (i : Int)] (.int .i64 ((bx i : Nat) : Int))) := rbox_any i hil
      have HE : Hid (ints bx (i + 1) = ints bx i ++ [.int .i64 ((bx i : Nat) : Int)]) := ints_succ bx i
      generalize bx i = y at *
      have i1 : (i : Int) < 256 := by omega
      have K0 := M1.out.drew
      go_wp2
      refine wp_region_noPanic ?_
      refine wp_region_peel (S := fun w => w.cell? ⟨W.heap.size + 1, 0, none⟩ = some vB) 7 (by kernel_rfl) rfl (by kernel_rfl) ?_ (fun hHeld => ?_)
      · exact K0.c0
      refine wpAnyH_take (i := 0) (oi := _) (v := ?_) rfl (by kernel_rfl) (by kernel_rfl) (by kernel_rfl) (fun _ _ _ h => h) (Or.inl ⟨by rfl, ?_⟩) (by assumption) ?_
      rotate_left
      · ((intro w hSw; (try dsimp only at hSw); go_simp) <;> (try with_reducible rfl))
      try simp only [Act.put]
      refine wpAnyH_take (i := 1) (oi := _) (v := ?_) rfl (by kernel_rfl) (by kernel_rfl) (by kernel_rfl) (fun _ _ _ h => h) (Or.inl ⟨by rfl, ?_⟩) (by assumption) ?_
      rotate_left
      · ((intro w hSw; (try dsimp only at hSw); go_simp) <;> (try with_reducible rfl))
      try simp only [Act.put]
      refine wpAnyH_take (i := 2) (oi := _) (v := ?_) rfl (by kernel_rfl) (by kernel_rfl) (by kernel_rfl) (fun _ _ _ h => h) (Or.inl ⟨by rfl, ?_⟩) (by assumption) ?_
      rotate_left
      · ((intro w hSw; (try dsimp only at hSw); go_simp) <;> (try with_reducible rfl))
      try simp only [Act.put]
      refine wpAnyH_ready (rs := [3]) (by kernel_rfl) (by simp) ?_
      refine AllReadyH.cons (o := _) rfl (fun KK hKK => ?_) AllReadyH.nil
      go_simp
      (go_at_call 28; refine (HX.out.go _).mono ?_; rintro e w3 ⟨rfl, hb3⟩)
      have K1 := K0.below hb3
      refine hKK.out _ _ ?_ (fun hHeld2 => ?_)
      · exact K1.c0
      clear hKK KK
      try simp only [Act.put]
      refine wpAnyH_ready (rs := [4]) (by kernel_rfl) (by simp) ?_
      refine AllReadyH.cons (o := _) rfl (fun KK hKK => ?_) AllReadyH.nil
      go_simp
      have K2 : Mk1 W (w3.alloc (Obj.cells #[.int .i64 (y : Int)] 3)) vB i := K1.below ((Below.refl _ _).alloc (Nat.le_refl _) _)
      refine hKK.out _ _ ?_ (fun hHeld3 => ?_)
      · exact K2.c0
      clear hKK KK
      try simp only [Act.put]
      refine wpAnyH_ready (rs := [5]) (by kernel_rfl) (by simp) ?_
      refine AllReadyH.cons (o := _) rfl (fun KK hKK => ?_) AllReadyH.nil
      simp only [Array.getElem_pop, List.getElem_toArray, List.getElem_cons_succ, List.getElem_cons_zero]
      rw [if_pos (by rfl)]
      refine wp_append_own _ _ _ 28 rfl (W.heap.size + 1 + 1) 3 i0 (.int .i64 0) 1 8 Tryz.underlying28 HN.out.1 HN.out.2.1 HN.out.2.2.1 HN.out.2.2.2 rfl (by decide) vB i (ints bx i) rfl K2.o ⟨w3.heap.size, 0, none⟩ 1 1 [.int .i64 (y : Int)] rfl rfl ?_ ?_ (by simp only [maxLen]; omega) (by omega) ?_ ?_
      · exact fun p u hu => by rcases p with _ | p <;> simp at hu; subst hu; simp [go_sem]
      · intro u hu; simp at hu; subst hu; rfl
      · have := cell_lt K1.c0; simp; omega
      intro v' w' hown hgr _
      have hown2 : w'.ownsRow (W.heap.size + 1 + 1) 3 1 v' (i + 1) (ints bx (i + 1)) := by rw [HE.out]; exact hown
      obtain ⟨gB, cB, rfl, _, _⟩ := irow_own (Nat.succ_pos _) hown2
      obtain ⟨K3, u1, u2⟩ := K2.next hgr hown2
      refine hKK.out _ _ ?_ (fun hHeld4 => ?_)
      · exact u1
      clear hKK KK
      try simp only [Act.put]
      refine wpAnyH_take (i := 6) (oi := _) (v := ?_) rfl (by kernel_rfl) (by kernel_rfl) (by kernel_rfl) (fun _ _ _ h => h) (Or.inl ⟨by rfl, ?_⟩) (by assumption) ?_
      rotate_left
      · ((intro w hSw; (try dsimp only at hSw); go_simp) <;> (try with_reducible rfl))
      try simp only [Act.put]
      refine wpAnyH_done (by kernel_rfl) ?_ _
      refine peel_last rfl (fun KK hKK => ?_)
      clear hHeld hHeld2 hHeld3 hHeld4 K0 K1 K2 hown hown2 hgr hb3
      go_simp
      refine hKK _ _ ?_
      refine NoPanic.normal ?_
      clear hKK KK u1 u2
      generalize w'.setCell ⟨W.heap.size + 1, 0, none⟩ (.slice (some ⟨gB, 0, none⟩) (i + 1) cB) = w5 at *
      go_wp2
      exact ⟨⟨i + 1, _, hil, by simp, K3⟩, by simp [intOf]; omega⟩
    · have M2 : Hid (∃ gB cB, Mk2 W wr gB cB (.slice none 0 0) 0 (fun _ => 0) (fun _ => 0)) := by
        have e : i = 256 := by omega
        rw [e] at M1
        have h := M1.out
        obtain ⟨gB, cB, e2, hb, hI⟩ := irow_own (by decide) h.o
        exact ⟨gB, cB, h.r0, h.r1, h.g0, h.g1, by rw [← e2]; exact h.c0, h.c1, h.f1, hI, hb, (fun e => by cases e), (fun j hj => by omega), (fun j hj => by omega), (fun j hj => by omega), World.ownsRow_nil _ _ _ _, h.d⟩
      obtain ⟨gB, cB, M3⟩ := M2.out
      have M4 : Hid (Mk2 W wr gB cB (.slice none 0 0) 0 (fun _ => 0) (fun _ => 0)) := M3
      clear M1 M2 M3
      have hin : ¬ ((i : Int) < 256) := by omega
      obtain ⟨j0, hj0, jz0, jz1, jz2⟩ := info_sl
      have HJ : Hid (Tryz.prog.info? 28 = some j0 ∧ j0.zero = some (.slice none 0 0) ∧ j0.size = 1 ∧ j0.bytes = 24) := ⟨hj0, jz0, jz1, jz2⟩
      clear hj0 jz0 jz1 jz2
      go_wp2
      go_loopw [3] (fun u w1 => ∃ (k : Nat) (vT : Value) (gs cs : Nat → Nat), k ≤ 8 ∧ u = .int .i64 k ∧ Hid (Mk2 W w1 gB cB vT k gs cs)) (fun u _ => 8 - (intOf u).toNat)
      case atStart => exact ⟨0, _, _, _, by omega, rfl, M4⟩
      case round =>
        clear M4
        rename World => w1
        obtain ⟨k, vT, gs, cs, hk, rfl, M5⟩ := hrel
        by_cases hkl : k < 8
        · have k1 : (k : Int) < 8 := by omega
          go_wp2
          go_loopw [4, 5] (fun v u w2 => ∃ j : Nat, j ≤ 256 ∧ u = .int .i64 j ∧ Hid (w2.ownsRow w1.heap.size 3 1 v j (ints (tmul k) j)) ∧ Hid (Below w1.heap.size w1 w2)) (fun _ u _ => 256 - (intOf u).toNat)
          case atStart => exact ⟨0, by omega, rfl, World.ownsRow_nil _ _ _ _, Below.refl _ _⟩
          case round =>
            rename World => w2
            obtain ⟨j, hj, rfl, HO, HB⟩ := hrel
            by_cases hjl : j < 256
            · have HX : Hid (Ret 29 #[.int .i64 (k : Int), .int .i64 (j : Int)] (.int .i64 ((tmul k j : Nat) : Int))) := rtim_any k j (by omega) hjl
              have HE : Hid (ints (tmul k) (j + 1) = ints (tmul k) j ++ [.int .i64 ((tmul k j : Nat) : Int)]) := ints_succ (tmul k) j
              generalize tmul k j = y at *
              have j1 : (j : Int) < 256 := by omega
              go_wp2_with (first | (go_at_call 29; refine (HX.out.go _).mono ?_; rintro e w3 ⟨rfl, hb3⟩; have O3 : Hid (w3.ownsRow w1.heap.size 3 1 u4 j (ints (tmul k) j)) := own_below HO.out hb3; have B3 : Hid (Below w1.heap.size w1 w3) := HB.out.trans (hb3.mono HB.out.size); clear hb3) | (at_builtin; refine wpList_append_own _ rfl _ _ 28 rfl w1.heap.size 3 i0 (.int .i64 0) 1 8 Tryz.underlying28 HN.out.1 HN.out.2.1 HN.out.2.2.1 HN.out.2.2.2 rfl (by decide) _ _ _ rfl (own_below O3.out (by go_grown)) ⟨w3.heap.size, 0, none⟩ 1 1 [.int .i64 (y : Int)] rfl rfl (fun p u hu => by rcases p with _ | p <;> simp at hu; subst hu; simp [go_sem]) (by intro u hu; simp at hu; subst hu; rfl) (by simp only [maxLen]; omega) (by omega) (by have := B3.out.size; simp; omega) ?_; intro v' w' hown' hgr _))
              refine ⟨⟨j + 1, hjl, by simp, ?_, ?_⟩, by simp [intOf]; omega⟩
              · rw [HE.out]; exact hown'
              · exact (B3.out.alloc B3.out.size _).grown hgr (by have := B3.out.size; simp; omega) fun q hq => (O3.out.lt q hq).1
            · have hjn : ¬ ((j : Int) < 256) := by omega
              have HG : Hid (∃ g c, u4 = .slice (some ⟨g, 0, none⟩) 256 c ∧ w1.heap.size ≤ g ∧ Irow w2 g 256 (tmul k)) := by
                have e : j = 256 := by omega
                rw [e] at HO
                exact irow_own (by decide) HO.out
              obtain ⟨g, c, rfl, hg1, hg2⟩ := HG.out
              have HI : Hid (w1.heap.size ≤ g ∧ Irow w2 g 256 (tmul k)) := ⟨hg1, hg2⟩
              have M6 : Hid (Mk2 W w2 gB cB vT k gs cs) := M5.out.below HB.out
              have HV : Hid (vT.ownBlock ≠ some g) := fun e => by
                have := (M5.out.o.lt g e).2
                omega
              clear HO HG hg1 hg2 HB
              have c1 := M6.out.c1
              have M7 : Hid (Mk2 W (w2.alloc (Obj.cells #[.slice (some ⟨g, 0, none⟩) 256 c] 28)) gB cB vT k gs cs) := M6.out.below ((Below.refl _ _).alloc (Nat.le_refl _) _)
              have I7 : Hid (Irow (w2.alloc (Obj.cells #[.slice (some ⟨g, 0, none⟩) 256 c] 28)) g 256 (tmul k)) := HI.out.2.below ((Below.refl _ _).alloc (Nat.le_refl _) _)
              have HL : Hid (W.heap.size + 1 + 1 ≤ g ∧ W.heap.size + 1 + 1 ≤ w2.heap.size) := ⟨by have := cell_lt M5.out.c0; have := HI.out.1; omega, by have := cell_lt c1; omega⟩
              go_wp2_with (at_builtin; refine wpList_append_own_at _ rfl _ _ 29 rfl (W.heap.size + 1 + 1) 28 j0 (.slice none 0 0) 1 24 Tryz.underlying29 HJ.out.1 HJ.out.2.1 HJ.out.2.2.1 HJ.out.2.2.2 rfl (by decide) vT k (slcs gs cs k) rfl M7.out.o ⟨w2.heap.size, 0, none⟩ 1 1 [.slice (some ⟨g, 0, none⟩) 256 c] rfl rfl (fun p u hu => by rcases p with _ | p <;> simp at hu; subst hu; simp [go_sem]) (by intro u hu; simp at hu; subst hu; rfl) (by simp only [maxLen]; omega) (by omega) (by have := HL.out.2; simp; omega) ?_; intro v' w' hown' hgr _ hvv; obtain ⟨M8, u1, u2⟩ := M7.out.next I7.out HL.out.1 HV.out hgr hown' hvv; obtain ⟨gT, cT, rfl⟩ := own_slc (Nat.succ_pos _) hown'; have M9 : Hid (Mk2 W (w'.setCell ⟨W.heap.size + 1, 1, none⟩ (.slice (some ⟨gT, 0, none⟩) (k + 1) cT)) gB cB (.slice (some ⟨gT, 0, none⟩) (k + 1) cT) (k + 1) (upd gs k g) (upd cs k c)) := M8; clear M8 hown' hgr hvv)
              exact ⟨⟨k + 1, _, _, _, hkl, by simp, M9⟩, by simp [intOf]; omega⟩
        · have hkn : ¬ ((k : Int) < 8) := by omega
          have HR : Hid (∃ gT cT, vT = .slice (some ⟨gT, 0, none⟩) 8 cT ∧ W.heap.size + 1 + 1 ≤ gT ∧ RTab w1 gB gT gs cs) := by
            have e : k = 8 := by omega
            rw [e] at M5
            exact rtab_of M5.out
          obtain ⟨gT, cT, rfl, hlT, hR⟩ := HR.out
          have HR2 : Hid (W.heap.size + 1 + 1 ≤ gT ∧ RTab w1 gB gT gs cs) := ⟨hlT, hR⟩
          clear HR hR hlT
          have c0 := M5.out.c0
          have c1 := M5.out.c1
          have r0 := M5.out.r0
          have r1 := M5.out.r1
          have g0 := M5.out.g0
          have g1 := M5.out.g1
          go_wp2
          refine bodyPost_ret (v := .agg #[.slice (some ⟨gB, 0, none⟩) 256 cB, .slice (some ⟨gT, 0, none⟩) 8 cT]) (by simp [results, Tryz.results11, go_sem, *]) rfl ?_
          refine ⟨gB, cB, gT, cT, gs, cs, rfl, ?_, (M5.out.d.setCell (Nat.le_refl _) _).setCell (Nat.le_refl _) _⟩
          have l1 := M5.out.lb
          have l2 := HR2.out.1
          have l3 := M5.out.lr
          exact (HR2.out.2.setLow _ (by omega) (by omega) (fun k hk => by have := l3 k (by omega); omega)).setLow _ (by omega) (by omega) (fun k hk => by have := l3 k (by omega); omega)


/-- What lies in memory while a round of the document goes on. -/
structure Rd (W w : World) (gB cB gT cT : Nat) (gs cs : Nat → Nat) (p : Nat) (f : Nat → Nat) (b0 bt bm : Nat) (tn : Nat → Nat) : Prop where
  t : RTab w gB gT gs cs
  s : Irow w p 64 f
  k0 : w.cell? ⟨b0, 0, none⟩ = some (.slice (some ⟨gB, 0, none⟩) 256 cB)
  k1 : w.cell? ⟨b0, 1, none⟩ = some (.slice (some ⟨gT, 0, none⟩) 8 cT)
  tu : Irow w bt 8 tn
  mi : Irow w bm 8 fac
  d : Below W.heap.size W w
theorem Rd.below {W w w' : World} {gB cB gT cT : Nat} {gs cs : Nat → Nat} {p : Nat} {f : Nat → Nat} {b0 bt bm : Nat} {tn : Nat → Nat} (h : Rd W w gB cB gT cT gs cs p f b0 bt bm tn) (q : Below w.heap.size w w') : Rd W w' gB cB gT cT gs cs p f b0 bt bm tn :=
  ⟨h.t.below q, h.s.below q, keepc q h.k0, keepc q h.k1, h.tu.below q, h.mi.below q, h.d.trans (q.mono h.d.size)⟩
theorem Irow.drew {w : World} {g n : Nat} {f : Nat → Nat} (h : Irow w g n f) : Irow w.drew g n f := ⟨h.lt, h.cell⟩
theorem lit8 (w : World) (f : Nat → Nat) (a0 a1 a2 a3 a4 a5 a6 a7 : Int) (h0 : a0 = (f 0 : Nat)) (h1 : a1 = (f 1 : Nat)) (h2 : a2 = (f 2 : Nat)) (h3 : a3 = (f 3 : Nat)) (h4 : a4 = (f 4 : Nat)) (h5 : a5 = (f 5 : Nat)) (h6 : a6 = (f 6 : Nat)) (h7 : a7 = (f 7 : Nat)) :
    Irow (w.alloc (Obj.cells #[.int .i64 a0, .int .i64 a1, .int .i64 a2, .int .i64 a3, .int .i64 a4, .int .i64 a5, .int .i64 a6, .int .i64 a7] 3)) w.heap.size 8 f := by
  subst h0 h1 h2 h3 h4 h5 h6 h7
  refine ⟨by simp, fun i hi => ?_⟩
  rcases lt8 hi with rfl | rfl | rfl | rfl | rfl | rfl | rfl | rfl <;> simp [go_sem]
/-- What a byte of the document's round is, by its first factors. -/
def rsum (a tn : Nat → Nat) (n : Nat) : Nat → Nat
  | 0 => 0
  | k + 1 => rsum a tn n k ^^^ tmul (fac k) (a (8 * ((n / 8 + tn ((n % 8 + k) % 8)) % 8) + (n % 8 + k) % 8))
theorem rsum_lt (a tn : Nat → Nat) (n : Nat) : ∀ k, rsum a tn n k < 256
  | 0 => by unfold rsum; decide
  | k + 1 => by
    unfold rsum
    exact Nat.xor_lt_two_pow (n := 8) (rsum_lt a tn n k) (tmul_lt _ _)
/-- A row of numbers came back. -/
def RRow (W : World) (f : Nat → Nat) (e : Ending) (w' : World) : Prop := ∃ g cap, e = .returned (.slice (some ⟨g, 0, none⟩) 64 cap) ∧ Irow w' g 64 f ∧ Below W.heap.size W w'
set_option maxHeartbeats 12800000 in
set_option maxRecDepth 100000 in
theorem rroundP (gB cB gT cT : Nat) (gs cs : Nat → Nat) (p cap i : Nat) (f : Nat → Nat) (hi : i < 16) (W : World) (hR : RTab W gB gT gs cs) (hS : Irow W p 64 f) (hf : ∀ n, f n < 256) :
    Calls Tryz.prog 107 #[.agg #[.slice (some ⟨gB, 0, none⟩) 256 cB, .slice (some ⟨gT, 0, none⟩) 8 cT], .slice (some ⟨p, 0, none⟩) 64 cap, .bool false, .int .i64 (i : Int)] W fun e w' => RRow W (fun n => rsum (fun n => bx (adP f i n)) tnP n 8) e w' := by
  obtain ⟨i0, hi0, hz0, hz1, hz2⟩ := info_i64
  have HN : Hid (Tryz.prog.info? 3 = some i0 ∧ i0.zero = some (.int .i64 0) ∧ i0.size = 1 ∧ i0.bytes = 8) := ⟨hi0, hz0, hz1, hz2⟩
  clear hi0 hz0 hz1 hz2
  have HF : Hid (∀ n, f n < 256) := hf
  have R0 : Hid (Rd W (((W.alloc (Obj.cells #[.slice (some ⟨gB, 0, none⟩) 256 cB, .slice (some ⟨gT, 0, none⟩) 8 cT] 31)).alloc (Obj.cells #[.int .i64 0, .int .i64 1, .int .i64 2, .int .i64 3, .int .i64 4, .int .i64 5, .int .i64 6, .int .i64 7] 3)).alloc (Obj.cells #[.int .i64 2, .int .i64 2, .int .i64 3, .int .i64 4, .int .i64 5, .int .i64 3, .int .i64 5, .int .i64 7] 3)) gB cB gT cT gs cs p f W.heap.size (W.heap.size + 1) (W.heap.size + 1 + 1) tnP) := ⟨hR.below (by go_grown), hS.below (by go_grown), by simp [go_sem], by simp [go_sem], (by
    have := lit8 (W.alloc (Obj.cells #[.slice (some ⟨gB, 0, none⟩) 256 cB, .slice (some ⟨gT, 0, none⟩) 8 cT] 31)) tnP 0 1 2 3 4 5 6 7 rfl rfl rfl rfl rfl rfl rfl rfl
    simp only [World.size_alloc] at this
    exact this.below ((Below.refl _ _).alloc (Nat.le_refl _) _)), (by
    have := lit8 ((W.alloc (Obj.cells #[.slice (some ⟨gB, 0, none⟩) 256 cB, .slice (some ⟨gT, 0, none⟩) 8 cT] 31)).alloc (Obj.cells #[.int .i64 0, .int .i64 1, .int .i64 2, .int .i64 3, .int .i64 4, .int .i64 5, .int .i64 6, .int .i64 7] 3)) fac 2 2 3 4 5 3 5 7 rfl rfl rfl rfl rfl rfl rfl rfl
    simp only [World.size_alloc] at this
    exact this), by go_grown⟩
  clear hR hS hf
  go_enter Tryz.func107, Tryz.ntmps107
  go_wp2
  generalize (((W.alloc (Obj.cells #[.slice (some ⟨gB, 0, none⟩) 256 cB, .slice (some ⟨gT, 0, none⟩) 8 cT] 31)).alloc (Obj.cells #[.int .i64 0, .int .i64 1, .int .i64 2, .int .i64 3, .int .i64 4, .int .i64 5, .int .i64 6, .int .i64 7] 3)).alloc (Obj.cells #[.int .i64 2, .int .i64 2, .int .i64 3, .int .i64 4, .int .i64 5, .int .i64 3, .int .i64 5, .int .i64 7] 3)) = w0 at *
  generalize hbm : W.heap.size + 1 + 1 = bm at *
  generalize hbt : W.heap.size + 1 = bt at *
  generalize hb0 : W.heap.size = b0 at *
  clear hbm hbt hb0
  go_loopw [11, 12] (fun v u wr => ∃ n : Nat, n ≤ 64 ∧ u = .int .i64 n ∧ Hid (wr.ownsRow w0.heap.size 3 1 v n (ints (fun n => bx (adP f i n)) n)) ∧ Hid (Below w0.heap.size w0 wr)) (fun _ u _ => 64 - (intOf u).toNat)
  case atStart => exact ⟨0, by omega, rfl, World.ownsRow_nil _ _ _ _, Below.refl _ _⟩
  case round =>
   obtain ⟨n, hn, rfl, HO, HB⟩ := hrel
   have R1 : Hid (Rd W wr gB cB gT cT gs cs p f b0 bt bm tnP) := R0.out.below HB.out
   by_cases hnl : n < 64
   · have n1 : (n : Int) < 64 := by omega
     have n2 : (0 : Int) ≤ (n : Int) := by omega
     by_cases hm : n % 8 = 0
     · skip
       have c0 := R1.out.k0
       have c1 := R1.out.s.cell n hnl
       have m1 : (n : Int).tmod 8 = 0 := by rw [Int.tmod_eq_emod_of_nonneg (by omega)]; omega
       have m2 : (n : Int) % 8 = 0 := by omega
       have d1 : (n : Int).tdiv 8 = ((n / 8 : Nat) : Int) := by rw [Int.tdiv_eq_ediv_of_nonneg (by omega)]; omega
       have d2 : (n : Int) / 8 = ((n / 8 : Nat) : Int) := by omega
       have hd : n / 8 < 8 := by omega
       have hx0 := i64_xor8 (f n) ((16 * (n / 8) + i) % 256) (HF.out n) (Nat.mod_lt _ (by decide))
       have e1 : (16 * ((n / 8 : Nat) : Int) + (i : Int)) = (((16 * (n / 8) + i) % 256 : Nat) : Int) := by omega
       have e2 : (16 * ((n / 8 : Nat) : Int) + (i : Int)) % 256 = (((16 * (n / 8) + i) % 256 : Nat) : Int) := by omega
       have e3 : (16 * ((n / 8 : Nat) : Int) + (i : Int)).tmod 256 = (((16 * (n / 8) + i) % 256 : Nat) : Int) := by rw [Int.tmod_eq_emod_of_nonneg (by omega)]; omega
       have hx1 : bits .xor .i64 (((f n) : Nat) : Int) (16 * ((n / 8 : Nat) : Int) + (i : Int)) = (((f n) ^^^ ((16 * (n / 8) + i) % 256) : Nat) : Int) := by rw [e1]; exact hx0
       have hx2 : bits .xor .i64 (((f n) : Nat) : Int) ((16 * ((n / 8 : Nat) : Int) + (i : Int)) % 256) = (((f n) ^^^ ((16 * (n / 8) + i) % 256) : Nat) : Int) := by rw [e2]; exact hx0
       have hx3 : bits .xor .i64 (((f n) : Nat) : Int) ((16 * ((n / 8 : Nat) : Int) + (i : Int)).tmod 256) = (((f n) ^^^ ((16 * (n / 8) + i) % 256) : Nat) : Int) := by rw [e3]; exact hx0
       clear hx0 e1 e2 e3
       have hv : (f n) ^^^ ((16 * (n / 8) + i) % 256) < 256 := Nat.xor_lt_two_pow (n := 8) (HF.out n) (Nat.mod_lt _ (by decide))
       have HA : Hid (adP f i n = (f n) ^^^ ((16 * (n / 8) + i) % 256)) := by unfold adP apl; rw [if_pos (by omega)]; exact (rfl : (f n) ^^^ ((16 * (n / 8) + i) % 256) = (f n) ^^^ ((16 * (n / 8) + i) % 256))
       have c2 := R1.out.t.b.cell ((f n) ^^^ ((16 * (n / 8) + i) % 256)) hv
       have HE : Hid (ints (fun n => bx (adP f i n)) (n + 1) = ints (fun n => bx (adP f i n)) n ++ [.int .i64 ((bx ((f n) ^^^ ((16 * (n / 8) + i) % 256)) : Nat) : Int)]) := by rw [ints_succ, HA.out]; exact (rfl : ints (fun n => bx (adP f i n)) n ++ [.int .i64 ((bx ((f n) ^^^ ((16 * (n / 8) + i) % 256)) : Nat) : Int)] = _)
       clear HA
       generalize hval : (f n) ^^^ ((16 * (n / 8) + i) % 256) = x at *
       clear hval
       generalize hdd : n / 8 = dd at *
       clear hdd
       generalize f n = z at *
       generalize bx x = y at *
       have x1' : (0 : Int) ≤ (x : Int) := by omega
       have x2' : (x : Int) < 256 := by omega
       go_wp2_with (at_builtin; refine wpList_append_own _ rfl _ _ 28 rfl w0.heap.size 3 i0 (.int .i64 0) 1 8 Tryz.underlying28 HN.out.1 HN.out.2.1 HN.out.2.2.1 HN.out.2.2.2 rfl (by decide) _ _ _ rfl (own_below HO.out (by go_grown)) ⟨wr.heap.size, 0, none⟩ 1 1 [.int .i64 (y : Int)] rfl rfl (fun p u hu => by rcases p with _ | p <;> simp at hu; subst hu; simp [go_sem]) (by intro u hu; simp at hu; subst hu; rfl) (by simp only [maxLen]; omega) (by omega) (by have := HB.out.size; simp; omega) ?_; intro v' w' hown' hgr _)
       refine ⟨⟨n + 1, hnl, by simp, ?_, ?_⟩, by simp [intOf]; omega⟩
       · rw [HE.out]; exact hown'
       · exact (HB.out.alloc HB.out.size _).grown hgr (by have := HB.out.size; simp; omega) fun q hq => (HO.out.lt q hq).1
     · skip
       have c0 := R1.out.k0
       have c1 := R1.out.s.cell n hnl
       have m0 : ((n : Int).tmod 8 == 0) = false := by rw [Int.tmod_eq_emod_of_nonneg (by omega)]; simp; omega
       have m1 : ((n : Int) % 8 == 0) = false := by simp; omega
       have m2 : ¬ ((n : Int) % 8 = 0) := by omega
       have m3 : ¬ ((n : Int).tmod 8 = 0) := by rw [Int.tmod_eq_emod_of_nonneg (by omega)]; omega
       have hv : (f n) < 256 := HF.out n
       have HA : Hid (adP f i n = (f n)) := by unfold adP apl; rw [if_neg (by omega)]; exact (rfl : (f n) = (f n))
       have c2 := R1.out.t.b.cell ((f n)) hv
       have HE : Hid (ints (fun n => bx (adP f i n)) (n + 1) = ints (fun n => bx (adP f i n)) n ++ [.int .i64 ((bx ((f n)) : Nat) : Int)]) := by rw [ints_succ, HA.out]; exact (rfl : ints (fun n => bx (adP f i n)) n ++ [.int .i64 ((bx ((f n)) : Nat) : Int)] = _)
       clear HA
       generalize f n = x at *
       generalize bx x = y at *
       have x1' : (0 : Int) ≤ (x : Int) := by omega
       have x2' : (x : Int) < 256 := by omega
       go_wp2_with (at_builtin; refine wpList_append_own _ rfl _ _ 28 rfl w0.heap.size 3 i0 (.int .i64 0) 1 8 Tryz.underlying28 HN.out.1 HN.out.2.1 HN.out.2.2.1 HN.out.2.2.2 rfl (by decide) _ _ _ rfl (own_below HO.out (by go_grown)) ⟨wr.heap.size, 0, none⟩ 1 1 [.int .i64 (y : Int)] rfl rfl (fun p u hu => by rcases p with _ | p <;> simp at hu; subst hu; simp [go_sem]) (by intro u hu; simp at hu; subst hu; rfl) (by simp only [maxLen]; omega) (by omega) (by have := HB.out.size; simp; omega) ?_; intro v' w' hown' hgr _)
       refine ⟨⟨n + 1, hnl, by simp, ?_, ?_⟩, by simp [intOf]; omega⟩
       · rw [HE.out]; exact hown'
       · exact (HB.out.alloc HB.out.size _).grown hgr (by have := HB.out.size; simp; omega) fun q hq => (HO.out.lt q hq).1
   · have hnn : ¬ ((n : Int) < 64) := by omega
     have HG : Hid (∃ g c, u11 = .slice (some ⟨g, 0, none⟩) 64 c ∧ w0.heap.size ≤ g ∧ Irow wr g 64 (fun n => bx (adP f i n))) := by
       have e : n = 64 := by omega
       rw [e] at HO
       exact irow_own (by decide) HO.out
     obtain ⟨ga, ca, rfl, _, hA⟩ := HG.out
     have HA : Hid (Irow wr ga 64 (fun n => bx (adP f i n))) := hA
     clear HG hA HO HB R0
     go_wp2
     go_loopw [14, 15] (fun v u w1 => ∃ m : Nat, m ≤ 64 ∧ u = .int .i64 m ∧ Hid (w1.ownsRow wr.heap.size 3 1 v m (ints (fun n => rsum (fun n => bx (adP f i n)) tnP n 8) m)) ∧ Hid (Below wr.heap.size wr w1)) (fun _ u _ => 64 - (intOf u).toNat)
     case atStart => exact ⟨0, by omega, rfl, World.ownsRow_nil _ _ _ _, Below.refl _ _⟩
     case round =>
      rename World => w1
      obtain ⟨m, hm, rfl, HO, HB⟩ := hrel
      have R2 : Hid (Rd W w1 gB cB gT cT gs cs p f b0 bt bm tnP) := R1.out.below HB.out
      have A2 : Hid (Irow w1 ga 64 (fun n => bx (adP f i n))) := HA.out.below HB.out
      by_cases hml : m < 64
      · have m1 : (m : Int) < 64 := by omega
        go_wp2
        go_loopw [16, 17] (fun v u w2 => ∃ k : Nat, k ≤ 8 ∧ v = .int .i64 ((rsum (fun n => bx (adP f i n)) tnP m k : Nat) : Int) ∧ u = .int .i64 k ∧ Hid (Rd W w2 gB cB gT cT gs cs p f b0 bt bm tnP) ∧ Hid (Irow w2 ga 64 (fun n => bx (adP f i n))) ∧ Hid (w2.ownsRow wr.heap.size 3 1 u14 m (ints (fun n => rsum (fun n => bx (adP f i n)) tnP n 8) m)) ∧ Hid (Below wr.heap.size wr w2)) (fun _ u _ => 8 - (intOf u).toNat)
        case atStart => exact ⟨0, by omega, rfl, rfl, R2, A2, HO, HB⟩
        case round =>
         rename World => w2
         obtain ⟨k, hk, rfl, rfl, R3, A3, O3, B3⟩ := hrel
         clear R2 A2 HO HB
         by_cases hkl : k < 8
         · have k1 : (k : Int) < 8 := by omega
           have k2 : (0 : Int) ≤ (k : Int) := by omega
           have hr8 : (m % 8 + k) % 8 < 8 := Nat.mod_lt _ (by decide)
           have ht8 : tnP ((m % 8 + k) % 8) < 8 := tnP_lt _
           have hc8 : (m / 8 + tnP ((m % 8 + k) % 8)) % 8 < 8 := Nat.mod_lt _ (by decide)
           have hj : 8 * ((m / 8 + tnP ((m % 8 + k) % 8)) % 8) + (m % 8 + k) % 8 < 64 := by omega
           have hF8 := fac_lt k
           have hxb : bx (adP f i (8 * ((m / 8 + tnP ((m % 8 + k) % 8)) % 8) + (m % 8 + k) % 8)) < 256 := bx_lt _
           have q1 := R3.out.tu.cell _ hr8
           have q2 := R3.out.k1
           have q3 := R3.out.mi.cell k hkl
           have q4 := R3.out.t.t _ hF8
           have q5 := A3.out.cell _ hj
           have q6 := (R3.out.t.r _ hF8).cell _ hxb
           have hxx : bits .xor .i64 ((rsum (fun n => bx (adP f i n)) tnP m k : Nat) : Int) ((tmul (fac k) (bx (adP f i (8 * ((m / 8 + tnP ((m % 8 + k) % 8)) % 8) + (m % 8 + k) % 8))) : Nat) : Int) = ((rsum (fun n => bx (adP f i n)) tnP m (k + 1) : Nat) : Int) := i64_xor8 _ _ (rsum_lt _ _ _ k) (tmul_lt _ _)
           have a5 : 8 * (((m / 8 + tnP ((m % 8 + k) % 8)) % 8 : Nat) : Int) + (((m % 8 + k) % 8 : Nat) : Int) = ((8 * ((m / 8 + tnP ((m % 8 + k) % 8)) % 8) + (m % 8 + k) % 8 : Nat) : Int) := by omega
           have a4 : (((m / 8 : Nat) : Int) + ((tnP ((m % 8 + k) % 8) : Nat) : Int)).tmod 8 = (((m / 8 + tnP ((m % 8 + k) % 8)) % 8 : Nat) : Int) := by rw [Int.tmod_eq_emod_of_nonneg (by omega)]; omega
           have b4 : (((m / 8 : Nat) : Int) + ((tnP ((m % 8 + k) % 8) : Nat) : Int)) % 8 = (((m / 8 + tnP ((m % 8 + k) % 8)) % 8 : Nat) : Int) := by omega
           have a2 : (((m % 8 : Nat) : Int) + (k : Int)).tmod 8 = (((m % 8 + k) % 8 : Nat) : Int) := by rw [Int.tmod_eq_emod_of_nonneg (by omega)]; omega
           have b2 : (((m % 8 : Nat) : Int) + (k : Int)) % 8 = (((m % 8 + k) % 8 : Nat) : Int) := by omega
           have a1 : (m : Int).tmod 8 = ((m % 8 : Nat) : Int) := by rw [Int.tmod_eq_emod_of_nonneg (by omega)]; omega
           have b1' : (m : Int) % 8 = ((m % 8 : Nat) : Int) := by omega
           have a3 : (m : Int).tdiv 8 = ((m / 8 : Nat) : Int) := by rw [Int.tdiv_eq_ediv_of_nonneg (by omega)]; omega
           have b3 : (m : Int) / 8 = ((m / 8 : Nat) : Int) := by omega
           have hdl : m / 8 < 8 := by omega
           have hml8 : m % 8 < 8 := by omega
           generalize hv : rsum (fun n => bx (adP f i n)) tnP m (k + 1) = v2 at *
           have HV : Hid (rsum (fun n => bx (adP f i n)) tnP m (k + 1) = v2) := hv
           clear hv
           generalize rsum (fun n => bx (adP f i n)) tnP m k = v1 at *
           generalize tmul (fac k) (bx (adP f i (8 * ((m / 8 + tnP ((m % 8 + k) % 8)) % 8) + (m % 8 + k) % 8))) = y at *
           generalize bx (adP f i (8 * ((m / 8 + tnP ((m % 8 + k) % 8)) % 8) + (m % 8 + k) % 8)) = x at *
           generalize hjj : 8 * ((m / 8 + tnP ((m % 8 + k) % 8)) % 8) + (m % 8 + k) % 8 = j at *
           clear hjj
           generalize hcc : (m / 8 + tnP ((m % 8 + k) % 8)) % 8 = c at *
           clear hcc
           generalize tnP ((m % 8 + k) % 8) = t at *
           generalize hrr : (m % 8 + k) % 8 = r at *
           clear hrr
           generalize hmm : m % 8 = mm at *
           clear hmm
           generalize hdd : m / 8 = dd at *
           clear hdd
           generalize fac k = F at *
           have i1 : (0 : Int) ≤ (r : Int) := by omega
           have i2 : (r : Int) < 8 := by omega
           have i3 : (0 : Int) ≤ (F : Int) := by omega
           have i4 : (F : Int) < 8 := by omega
           have i5 : (0 : Int) ≤ (j : Int) := by omega
           have i6 : (j : Int) < 64 := by omega
           have i7 : (0 : Int) ≤ (x : Int) := by omega
           have i8 : (x : Int) < 256 := by omega
           have w1' : IntKind.i64.wrap (8 * (c : Int)) = 8 * (c : Int) := by rw [IntKind.wrap_i64]; omega
           have w2' : IntKind.i64.wrap (8 * (c : Int) + (r : Int)) = (j : Int) := by rw [IntKind.wrap_i64]; omega
           have w3' : IntKind.i64.wrap (j : Int) = (j : Int) := by rw [IntKind.wrap_i64]; omega
           go_wp2
           go_region_held3 (fun w => w.cell? ⟨b0, 1, none⟩ = some (.slice (some ⟨gT, 0, none⟩) 8 cT) ∧ w.cell? ⟨bm, k, none⟩ = some (.int .i64 (F : Int)) ∧ w.cell? ⟨gT, F, none⟩ = some (.slice (some ⟨gs F, 0, none⟩) 256 (cs F)) ∧ w.cell? ⟨ga, j, none⟩ = some (.int .i64 (x : Int)) ∧ w.cell? ⟨gs F, x, none⟩ = some (.int .i64 (y : Int))) (go_keep) (fail)
           go_wp2
           exact ⟨⟨k + 1, hkl, by rw [HV.out], by simp, ⟨R3.out.t.drew, R3.out.s.drew, R3.out.k0, R3.out.k1, R3.out.tu.drew, R3.out.mi.drew, R3.out.d.drew⟩, A3.out.drew, O3, B3.out.drew⟩, by simp [intOf]; omega⟩
         · have hkn : ¬ ((k : Int) < 8) := by omega
           have HE : Hid (ints (fun n => rsum (fun n => bx (adP f i n)) tnP n 8) (m + 1) = ints (fun n => rsum (fun n => bx (adP f i n)) tnP n 8) m ++ [.int .i64 ((rsum (fun n => bx (adP f i n)) tnP m k : Nat) : Int)]) := by rw [ints_succ, show k = 8 by omega]; exact (rfl : _ = _)
           generalize rsum (fun n => bx (adP f i n)) tnP m k = y at *
           go_wp2_with (at_builtin; refine wpList_append_own _ rfl _ _ 28 rfl wr.heap.size 3 i0 (.int .i64 0) 1 8 Tryz.underlying28 HN.out.1 HN.out.2.1 HN.out.2.2.1 HN.out.2.2.2 rfl (by decide) _ _ _ rfl (own_below O3.out (by go_grown)) ⟨w2.heap.size, 0, none⟩ 1 1 [.int .i64 (y : Int)] rfl rfl (fun p u hu => by rcases p with _ | p <;> simp at hu; subst hu; simp [go_sem]) (by intro u hu; simp at hu; subst hu; rfl) (by simp only [maxLen]; omega) (by omega) (by have := B3.out.size; simp; omega) ?_; intro v' w' hown' hgr _)
           refine ⟨⟨m + 1, hml, by simp, ?_, ?_⟩, by simp [intOf]; omega⟩
           · rw [HE.out]; exact hown'
           · exact (B3.out.alloc B3.out.size _).grown hgr (by have := B3.out.size; simp; omega) fun q hq => (O3.out.lt q hq).1
      · have hmn : ¬ ((m : Int) < 64) := by omega
        have HG : Hid (∃ g c, u14 = .slice (some ⟨g, 0, none⟩) 64 c ∧ wr.heap.size ≤ g ∧ Irow w1 g 64 (fun n => rsum (fun n => bx (adP f i n)) tnP n 8)) := by
          have e : m = 64 := by omega
          rw [e] at HO
          exact irow_own (by decide) HO.out
        obtain ⟨go, co, rfl, _, hI⟩ := HG.out
        have HI : Hid (Irow w1 go 64 (fun n => rsum (fun n => bx (adP f i n)) tnP n 8)) := hI
        clear HG hI
        go_wp2
        go_ret
        exact ⟨go, co, rfl, HI.out, R2.out.d⟩
set_option maxHeartbeats 12800000 in
set_option maxRecDepth 100000 in
theorem rroundQ (gB cB gT cT : Nat) (gs cs : Nat → Nat) (p cap i : Nat) (f : Nat → Nat) (hi : i < 16) (W : World) (hR : RTab W gB gT gs cs) (hS : Irow W p 64 f) (hf : ∀ n, f n < 256) :
    Calls Tryz.prog 107 #[.agg #[.slice (some ⟨gB, 0, none⟩) 256 cB, .slice (some ⟨gT, 0, none⟩) 8 cT], .slice (some ⟨p, 0, none⟩) 64 cap, .bool true, .int .i64 (i : Int)] W fun e w' => RRow W (fun n => rsum (fun n => bx (adQ f i n)) tnQ n 8) e w' := by
  obtain ⟨i0, hi0, hz0, hz1, hz2⟩ := info_i64
  have HN : Hid (Tryz.prog.info? 3 = some i0 ∧ i0.zero = some (.int .i64 0) ∧ i0.size = 1 ∧ i0.bytes = 8) := ⟨hi0, hz0, hz1, hz2⟩
  clear hi0 hz0 hz1 hz2
  have HF : Hid (∀ n, f n < 256) := hf
  have R0 : Hid (Rd W ((((W.alloc (Obj.cells #[.slice (some ⟨gB, 0, none⟩) 256 cB, .slice (some ⟨gT, 0, none⟩) 8 cT] 31)).alloc (Obj.cells #[.int .i64 0, .int .i64 1, .int .i64 2, .int .i64 3, .int .i64 4, .int .i64 5, .int .i64 6, .int .i64 7] 3)).alloc (Obj.cells #[.int .i64 2, .int .i64 2, .int .i64 3, .int .i64 4, .int .i64 5, .int .i64 3, .int .i64 5, .int .i64 7] 3)).alloc (Obj.cells #[.int .i64 1, .int .i64 3, .int .i64 5, .int .i64 7, .int .i64 0, .int .i64 2, .int .i64 4, .int .i64 6] 3)) gB cB gT cT gs cs p f W.heap.size (W.heap.size + 1 + 1 + 1) (W.heap.size + 1 + 1) tnQ) := ⟨hR.below (by go_grown), hS.below (by go_grown), by simp [go_sem], by simp [go_sem], (by
    have := lit8 (((W.alloc (Obj.cells #[.slice (some ⟨gB, 0, none⟩) 256 cB, .slice (some ⟨gT, 0, none⟩) 8 cT] 31)).alloc (Obj.cells #[.int .i64 0, .int .i64 1, .int .i64 2, .int .i64 3, .int .i64 4, .int .i64 5, .int .i64 6, .int .i64 7] 3)).alloc (Obj.cells #[.int .i64 2, .int .i64 2, .int .i64 3, .int .i64 4, .int .i64 5, .int .i64 3, .int .i64 5, .int .i64 7] 3)) tnQ 1 3 5 7 0 2 4 6 rfl rfl rfl rfl rfl rfl rfl rfl
    simp only [World.size_alloc] at this
    exact this), (by
    have := lit8 ((W.alloc (Obj.cells #[.slice (some ⟨gB, 0, none⟩) 256 cB, .slice (some ⟨gT, 0, none⟩) 8 cT] 31)).alloc (Obj.cells #[.int .i64 0, .int .i64 1, .int .i64 2, .int .i64 3, .int .i64 4, .int .i64 5, .int .i64 6, .int .i64 7] 3)) fac 2 2 3 4 5 3 5 7 rfl rfl rfl rfl rfl rfl rfl rfl
    simp only [World.size_alloc] at this
    exact this.below ((Below.refl _ _).alloc (Nat.le_refl _) _)), by go_grown⟩
  clear hR hS hf
  go_enter Tryz.func107, Tryz.ntmps107
  go_wp2
  generalize ((((W.alloc (Obj.cells #[.slice (some ⟨gB, 0, none⟩) 256 cB, .slice (some ⟨gT, 0, none⟩) 8 cT] 31)).alloc (Obj.cells #[.int .i64 0, .int .i64 1, .int .i64 2, .int .i64 3, .int .i64 4, .int .i64 5, .int .i64 6, .int .i64 7] 3)).alloc (Obj.cells #[.int .i64 2, .int .i64 2, .int .i64 3, .int .i64 4, .int .i64 5, .int .i64 3, .int .i64 5, .int .i64 7] 3)).alloc (Obj.cells #[.int .i64 1, .int .i64 3, .int .i64 5, .int .i64 7, .int .i64 0, .int .i64 2, .int .i64 4, .int .i64 6] 3)) = w0 at *
  generalize hbm : W.heap.size + 1 + 1 = bm at *
  generalize hbt : bm + 1 = bt at *
  generalize hb0 : W.heap.size = b0 at *
  clear hbm hbt hb0
  go_loopw [11, 12] (fun v u wr => ∃ n : Nat, n ≤ 64 ∧ u = .int .i64 n ∧ Hid (wr.ownsRow w0.heap.size 3 1 v n (ints (fun n => bx (adQ f i n)) n)) ∧ Hid (Below w0.heap.size w0 wr)) (fun _ u _ => 64 - (intOf u).toNat)
  case atStart => exact ⟨0, by omega, rfl, World.ownsRow_nil _ _ _ _, Below.refl _ _⟩
  case round =>
   obtain ⟨n, hn, rfl, HO, HB⟩ := hrel
   have R1 : Hid (Rd W wr gB cB gT cT gs cs p f b0 bt bm tnQ) := R0.out.below HB.out
   by_cases hnl : n < 64
   · have n1 : (n : Int) < 64 := by omega
     have n2 : (0 : Int) ≤ (n : Int) := by omega
     by_cases hm : n % 8 = 7
     · skip
       have c0 := R1.out.k0
       have c1 := R1.out.s.cell n hnl
       have hq1 : bits .xor .i64 ((f n : Nat) : Int) 255 = ((f n ^^^ 255 : Nat) : Int) := i64_xor8 _ 255 (HF.out n) (by decide)
       have m1 : (n : Int).tmod 8 = 7 := by rw [Int.tmod_eq_emod_of_nonneg (by omega)]; omega
       have m2 : (n : Int) % 8 = 7 := by omega
       have d1 : (n : Int).tdiv 8 = ((n / 8 : Nat) : Int) := by rw [Int.tdiv_eq_ediv_of_nonneg (by omega)]; omega
       have d2 : (n : Int) / 8 = ((n / 8 : Nat) : Int) := by omega
       have hd : n / 8 < 8 := by omega
       have hx0 := i64_xor8 (f n ^^^ 255) ((16 * (n / 8) + i) % 256) (not_lt HF.out n) (Nat.mod_lt _ (by decide))
       have e1 : (16 * ((n / 8 : Nat) : Int) + (i : Int)) = (((16 * (n / 8) + i) % 256 : Nat) : Int) := by omega
       have e2 : (16 * ((n / 8 : Nat) : Int) + (i : Int)) % 256 = (((16 * (n / 8) + i) % 256 : Nat) : Int) := by omega
       have e3 : (16 * ((n / 8 : Nat) : Int) + (i : Int)).tmod 256 = (((16 * (n / 8) + i) % 256 : Nat) : Int) := by rw [Int.tmod_eq_emod_of_nonneg (by omega)]; omega
       have hx1 : bits .xor .i64 (((f n ^^^ 255) : Nat) : Int) (16 * ((n / 8 : Nat) : Int) + (i : Int)) = (((f n ^^^ 255) ^^^ ((16 * (n / 8) + i) % 256) : Nat) : Int) := by rw [e1]; exact hx0
       have hx2 : bits .xor .i64 (((f n ^^^ 255) : Nat) : Int) ((16 * ((n / 8 : Nat) : Int) + (i : Int)) % 256) = (((f n ^^^ 255) ^^^ ((16 * (n / 8) + i) % 256) : Nat) : Int) := by rw [e2]; exact hx0
       have hx3 : bits .xor .i64 (((f n ^^^ 255) : Nat) : Int) ((16 * ((n / 8 : Nat) : Int) + (i : Int)).tmod 256) = (((f n ^^^ 255) ^^^ ((16 * (n / 8) + i) % 256) : Nat) : Int) := by rw [e3]; exact hx0
       clear hx0 e1 e2 e3
       have hv : (f n ^^^ 255) ^^^ ((16 * (n / 8) + i) % 256) < 256 := Nat.xor_lt_two_pow (n := 8) (not_lt HF.out n) (Nat.mod_lt _ (by decide))
       have HA : Hid (adQ f i n = (f n ^^^ 255) ^^^ ((16 * (n / 8) + i) % 256)) := by unfold adQ apl; rw [if_pos (by omega)]; exact (rfl : (f n ^^^ 255) ^^^ ((16 * (n / 8) + i) % 256) = (f n ^^^ 255) ^^^ ((16 * (n / 8) + i) % 256))
       have c2 := R1.out.t.b.cell ((f n ^^^ 255) ^^^ ((16 * (n / 8) + i) % 256)) hv
       have HE : Hid (ints (fun n => bx (adQ f i n)) (n + 1) = ints (fun n => bx (adQ f i n)) n ++ [.int .i64 ((bx ((f n ^^^ 255) ^^^ ((16 * (n / 8) + i) % 256)) : Nat) : Int)]) := by rw [ints_succ, HA.out]; exact (rfl : ints (fun n => bx (adQ f i n)) n ++ [.int .i64 ((bx ((f n ^^^ 255) ^^^ ((16 * (n / 8) + i) % 256)) : Nat) : Int)] = _)
       clear HA
       generalize hval : (f n ^^^ 255) ^^^ ((16 * (n / 8) + i) % 256) = x at *
       clear hval
       generalize hdd : n / 8 = dd at *
       clear hdd
       generalize f n ^^^ 255 = z0 at *
       generalize f n = z at *
       generalize bx x = y at *
       have x1' : (0 : Int) ≤ (x : Int) := by omega
       have x2' : (x : Int) < 256 := by omega
       go_wp2_with (at_builtin; refine wpList_append_own _ rfl _ _ 28 rfl w0.heap.size 3 i0 (.int .i64 0) 1 8 Tryz.underlying28 HN.out.1 HN.out.2.1 HN.out.2.2.1 HN.out.2.2.2 rfl (by decide) _ _ _ rfl (own_below HO.out (by go_grown)) ⟨wr.heap.size, 0, none⟩ 1 1 [.int .i64 (y : Int)] rfl rfl (fun p u hu => by rcases p with _ | p <;> simp at hu; subst hu; simp [go_sem]) (by intro u hu; simp at hu; subst hu; rfl) (by simp only [maxLen]; omega) (by omega) (by have := HB.out.size; simp; omega) ?_; intro v' w' hown' hgr _)
       refine ⟨⟨n + 1, hnl, by simp, ?_, ?_⟩, by simp [intOf]; omega⟩
       · rw [HE.out]; exact hown'
       · exact (HB.out.alloc HB.out.size _).grown hgr (by have := HB.out.size; simp; omega) fun q hq => (HO.out.lt q hq).1
     · skip
       have c0 := R1.out.k0
       have c1 := R1.out.s.cell n hnl
       have hq1 : bits .xor .i64 ((f n : Nat) : Int) 255 = ((f n ^^^ 255 : Nat) : Int) := i64_xor8 _ 255 (HF.out n) (by decide)
       have m0 : ((n : Int).tmod 8 == 7) = false := by rw [Int.tmod_eq_emod_of_nonneg (by omega)]; simp; omega
       have m1 : ((n : Int) % 8 == 7) = false := by simp; omega
       have m2 : ¬ ((n : Int) % 8 = 7) := by omega
       have m3 : ¬ ((n : Int).tmod 8 = 7) := by rw [Int.tmod_eq_emod_of_nonneg (by omega)]; omega
       have hv : (f n ^^^ 255) < 256 := not_lt HF.out n
       have HA : Hid (adQ f i n = (f n ^^^ 255)) := by unfold adQ apl; rw [if_neg (by omega)]; exact (rfl : (f n ^^^ 255) = (f n ^^^ 255))
       have c2 := R1.out.t.b.cell ((f n ^^^ 255)) hv
       have HE : Hid (ints (fun n => bx (adQ f i n)) (n + 1) = ints (fun n => bx (adQ f i n)) n ++ [.int .i64 ((bx ((f n ^^^ 255)) : Nat) : Int)]) := by rw [ints_succ, HA.out]; exact (rfl : ints (fun n => bx (adQ f i n)) n ++ [.int .i64 ((bx ((f n ^^^ 255)) : Nat) : Int)] = _)
       clear HA
       generalize f n ^^^ 255 = x at *
       generalize f n = z at *
       generalize bx x = y at *
       have x1' : (0 : Int) ≤ (x : Int) := by omega
       have x2' : (x : Int) < 256 := by omega
       go_wp2_with (at_builtin; refine wpList_append_own _ rfl _ _ 28 rfl w0.heap.size 3 i0 (.int .i64 0) 1 8 Tryz.underlying28 HN.out.1 HN.out.2.1 HN.out.2.2.1 HN.out.2.2.2 rfl (by decide) _ _ _ rfl (own_below HO.out (by go_grown)) ⟨wr.heap.size, 0, none⟩ 1 1 [.int .i64 (y : Int)] rfl rfl (fun p u hu => by rcases p with _ | p <;> simp at hu; subst hu; simp [go_sem]) (by intro u hu; simp at hu; subst hu; rfl) (by simp only [maxLen]; omega) (by omega) (by have := HB.out.size; simp; omega) ?_; intro v' w' hown' hgr _)
       refine ⟨⟨n + 1, hnl, by simp, ?_, ?_⟩, by simp [intOf]; omega⟩
       · rw [HE.out]; exact hown'
       · exact (HB.out.alloc HB.out.size _).grown hgr (by have := HB.out.size; simp; omega) fun q hq => (HO.out.lt q hq).1
   · have hnn : ¬ ((n : Int) < 64) := by omega
     have HG : Hid (∃ g c, u11 = .slice (some ⟨g, 0, none⟩) 64 c ∧ w0.heap.size ≤ g ∧ Irow wr g 64 (fun n => bx (adQ f i n))) := by
       have e : n = 64 := by omega
       rw [e] at HO
       exact irow_own (by decide) HO.out
     obtain ⟨ga, ca, rfl, _, hA⟩ := HG.out
     have HA : Hid (Irow wr ga 64 (fun n => bx (adQ f i n))) := hA
     clear HG hA HO HB R0
     go_wp2
     go_loopw [14, 15] (fun v u w1 => ∃ m : Nat, m ≤ 64 ∧ u = .int .i64 m ∧ Hid (w1.ownsRow wr.heap.size 3 1 v m (ints (fun n => rsum (fun n => bx (adQ f i n)) tnQ n 8) m)) ∧ Hid (Below wr.heap.size wr w1)) (fun _ u _ => 64 - (intOf u).toNat)
     case atStart => exact ⟨0, by omega, rfl, World.ownsRow_nil _ _ _ _, Below.refl _ _⟩
     case round =>
      rename World => w1
      obtain ⟨m, hm, rfl, HO, HB⟩ := hrel
      have R2 : Hid (Rd W w1 gB cB gT cT gs cs p f b0 bt bm tnQ) := R1.out.below HB.out
      have A2 : Hid (Irow w1 ga 64 (fun n => bx (adQ f i n))) := HA.out.below HB.out
      by_cases hml : m < 64
      · have m1 : (m : Int) < 64 := by omega
        go_wp2
        go_loopw [16, 17] (fun v u w2 => ∃ k : Nat, k ≤ 8 ∧ v = .int .i64 ((rsum (fun n => bx (adQ f i n)) tnQ m k : Nat) : Int) ∧ u = .int .i64 k ∧ Hid (Rd W w2 gB cB gT cT gs cs p f b0 bt bm tnQ) ∧ Hid (Irow w2 ga 64 (fun n => bx (adQ f i n))) ∧ Hid (w2.ownsRow wr.heap.size 3 1 u14 m (ints (fun n => rsum (fun n => bx (adQ f i n)) tnQ n 8) m)) ∧ Hid (Below wr.heap.size wr w2)) (fun _ u _ => 8 - (intOf u).toNat)
        case atStart => exact ⟨0, by omega, rfl, rfl, R2, A2, HO, HB⟩
        case round =>
         rename World => w2
         obtain ⟨k, hk, rfl, rfl, R3, A3, O3, B3⟩ := hrel
         clear R2 A2 HO HB
         by_cases hkl : k < 8
         · have k1 : (k : Int) < 8 := by omega
           have k2 : (0 : Int) ≤ (k : Int) := by omega
           have hr8 : (m % 8 + k) % 8 < 8 := Nat.mod_lt _ (by decide)
           have ht8 : tnQ ((m % 8 + k) % 8) < 8 := tnQ_lt _
           have hc8 : (m / 8 + tnQ ((m % 8 + k) % 8)) % 8 < 8 := Nat.mod_lt _ (by decide)
           have hj : 8 * ((m / 8 + tnQ ((m % 8 + k) % 8)) % 8) + (m % 8 + k) % 8 < 64 := by omega
           have hF8 := fac_lt k
           have hxb : bx (adQ f i (8 * ((m / 8 + tnQ ((m % 8 + k) % 8)) % 8) + (m % 8 + k) % 8)) < 256 := bx_lt _
           have q1 := R3.out.tu.cell _ hr8
           have q2 := R3.out.k1
           have q3 := R3.out.mi.cell k hkl
           have q4 := R3.out.t.t _ hF8
           have q5 := A3.out.cell _ hj
           have q6 := (R3.out.t.r _ hF8).cell _ hxb
           have hxx : bits .xor .i64 ((rsum (fun n => bx (adQ f i n)) tnQ m k : Nat) : Int) ((tmul (fac k) (bx (adQ f i (8 * ((m / 8 + tnQ ((m % 8 + k) % 8)) % 8) + (m % 8 + k) % 8))) : Nat) : Int) = ((rsum (fun n => bx (adQ f i n)) tnQ m (k + 1) : Nat) : Int) := i64_xor8 _ _ (rsum_lt _ _ _ k) (tmul_lt _ _)
           have a5 : 8 * (((m / 8 + tnQ ((m % 8 + k) % 8)) % 8 : Nat) : Int) + (((m % 8 + k) % 8 : Nat) : Int) = ((8 * ((m / 8 + tnQ ((m % 8 + k) % 8)) % 8) + (m % 8 + k) % 8 : Nat) : Int) := by omega
           have a4 : (((m / 8 : Nat) : Int) + ((tnQ ((m % 8 + k) % 8) : Nat) : Int)).tmod 8 = (((m / 8 + tnQ ((m % 8 + k) % 8)) % 8 : Nat) : Int) := by rw [Int.tmod_eq_emod_of_nonneg (by omega)]; omega
           have b4 : (((m / 8 : Nat) : Int) + ((tnQ ((m % 8 + k) % 8) : Nat) : Int)) % 8 = (((m / 8 + tnQ ((m % 8 + k) % 8)) % 8 : Nat) : Int) := by omega
           have a2 : (((m % 8 : Nat) : Int) + (k : Int)).tmod 8 = (((m % 8 + k) % 8 : Nat) : Int) := by rw [Int.tmod_eq_emod_of_nonneg (by omega)]; omega
           have b2 : (((m % 8 : Nat) : Int) + (k : Int)) % 8 = (((m % 8 + k) % 8 : Nat) : Int) := by omega
           have a1 : (m : Int).tmod 8 = ((m % 8 : Nat) : Int) := by rw [Int.tmod_eq_emod_of_nonneg (by omega)]; omega
           have b1' : (m : Int) % 8 = ((m % 8 : Nat) : Int) := by omega
           have a3 : (m : Int).tdiv 8 = ((m / 8 : Nat) : Int) := by rw [Int.tdiv_eq_ediv_of_nonneg (by omega)]; omega
           have b3 : (m : Int) / 8 = ((m / 8 : Nat) : Int) := by omega
           have hdl : m / 8 < 8 := by omega
           have hml8 : m % 8 < 8 := by omega
           generalize hv : rsum (fun n => bx (adQ f i n)) tnQ m (k + 1) = v2 at *
           have HV : Hid (rsum (fun n => bx (adQ f i n)) tnQ m (k + 1) = v2) := hv
           clear hv
           generalize rsum (fun n => bx (adQ f i n)) tnQ m k = v1 at *
           generalize tmul (fac k) (bx (adQ f i (8 * ((m / 8 + tnQ ((m % 8 + k) % 8)) % 8) + (m % 8 + k) % 8))) = y at *
           generalize bx (adQ f i (8 * ((m / 8 + tnQ ((m % 8 + k) % 8)) % 8) + (m % 8 + k) % 8)) = x at *
           generalize hjj : 8 * ((m / 8 + tnQ ((m % 8 + k) % 8)) % 8) + (m % 8 + k) % 8 = j at *
           clear hjj
           generalize hcc : (m / 8 + tnQ ((m % 8 + k) % 8)) % 8 = c at *
           clear hcc
           generalize tnQ ((m % 8 + k) % 8) = t at *
           generalize hrr : (m % 8 + k) % 8 = r at *
           clear hrr
           generalize hmm : m % 8 = mm at *
           clear hmm
           generalize hdd : m / 8 = dd at *
           clear hdd
           generalize fac k = F at *
           have i1 : (0 : Int) ≤ (r : Int) := by omega
           have i2 : (r : Int) < 8 := by omega
           have i3 : (0 : Int) ≤ (F : Int) := by omega
           have i4 : (F : Int) < 8 := by omega
           have i5 : (0 : Int) ≤ (j : Int) := by omega
           have i6 : (j : Int) < 64 := by omega
           have i7 : (0 : Int) ≤ (x : Int) := by omega
           have i8 : (x : Int) < 256 := by omega
           have w1' : IntKind.i64.wrap (8 * (c : Int)) = 8 * (c : Int) := by rw [IntKind.wrap_i64]; omega
           have w2' : IntKind.i64.wrap (8 * (c : Int) + (r : Int)) = (j : Int) := by rw [IntKind.wrap_i64]; omega
           have w3' : IntKind.i64.wrap (j : Int) = (j : Int) := by rw [IntKind.wrap_i64]; omega
           go_wp2
           go_region_held3 (fun w => w.cell? ⟨b0, 1, none⟩ = some (.slice (some ⟨gT, 0, none⟩) 8 cT) ∧ w.cell? ⟨bm, k, none⟩ = some (.int .i64 (F : Int)) ∧ w.cell? ⟨gT, F, none⟩ = some (.slice (some ⟨gs F, 0, none⟩) 256 (cs F)) ∧ w.cell? ⟨ga, j, none⟩ = some (.int .i64 (x : Int)) ∧ w.cell? ⟨gs F, x, none⟩ = some (.int .i64 (y : Int))) (go_keep) (fail)
           go_wp2
           exact ⟨⟨k + 1, hkl, by rw [HV.out], by simp, ⟨R3.out.t.drew, R3.out.s.drew, R3.out.k0, R3.out.k1, R3.out.tu.drew, R3.out.mi.drew, R3.out.d.drew⟩, A3.out.drew, O3, B3.out.drew⟩, by simp [intOf]; omega⟩
         · have hkn : ¬ ((k : Int) < 8) := by omega
           have HE : Hid (ints (fun n => rsum (fun n => bx (adQ f i n)) tnQ n 8) (m + 1) = ints (fun n => rsum (fun n => bx (adQ f i n)) tnQ n 8) m ++ [.int .i64 ((rsum (fun n => bx (adQ f i n)) tnQ m k : Nat) : Int)]) := by rw [ints_succ, show k = 8 by omega]; exact (rfl : _ = _)
           generalize rsum (fun n => bx (adQ f i n)) tnQ m k = y at *
           go_wp2_with (at_builtin; refine wpList_append_own _ rfl _ _ 28 rfl wr.heap.size 3 i0 (.int .i64 0) 1 8 Tryz.underlying28 HN.out.1 HN.out.2.1 HN.out.2.2.1 HN.out.2.2.2 rfl (by decide) _ _ _ rfl (own_below O3.out (by go_grown)) ⟨w2.heap.size, 0, none⟩ 1 1 [.int .i64 (y : Int)] rfl rfl (fun p u hu => by rcases p with _ | p <;> simp at hu; subst hu; simp [go_sem]) (by intro u hu; simp at hu; subst hu; rfl) (by simp only [maxLen]; omega) (by omega) (by have := B3.out.size; simp; omega) ?_; intro v' w' hown' hgr _)
           refine ⟨⟨m + 1, hml, by simp, ?_, ?_⟩, by simp [intOf]; omega⟩
           · rw [HE.out]; exact hown'
           · exact (B3.out.alloc B3.out.size _).grown hgr (by have := B3.out.size; simp; omega) fun q hq => (O3.out.lt q hq).1
      · have hmn : ¬ ((m : Int) < 64) := by omega
        have HG : Hid (∃ g c, u14 = .slice (some ⟨g, 0, none⟩) 64 c ∧ wr.heap.size ≤ g ∧ Irow w1 g 64 (fun n => rsum (fun n => bx (adQ f i n)) tnQ n 8)) := by
          have e : m = 64 := by omega
          rw [e] at HO
          exact irow_own (by decide) HO.out
        obtain ⟨go, co, rfl, _, hI⟩ := HG.out
        have HI : Hid (Irow w1 go 64 (fun n => rsum (fun n => bx (adQ f i n)) tnQ n 8)) := hI
        clear HG hI
        go_wp2
        go_ret
        exact ⟨go, co, rfl, HI.out, R2.out.d⟩


theorem byte_xor (a b s : Nat) : (a ^^^ b) / 2 ^ s % 256 = (a / 2 ^ s % 256) ^^^ (b / 2 ^ s % 256) := by
  rw [byte_of, byte_of, byte_of, Nat.shiftRight_xor_distrib, Nat.and_xor_distrib_right]
theorem rl64_byte {x r R : Nat} (hx : x < 2 ^ 64) (hr : r < 8) (hR : R < 8) : rl64 x (8 * r) / 2 ^ (8 * R) % 256 = x / 2 ^ (8 * ((R + 8 - r) % 8)) % 256 := by
  rw [rl64_x hx (by omega), byte_of, byte_of]
  apply Nat.eq_of_testBit_eq
  intro i
  unfold rlx
  rw [Nat.testBit_and, Nat.testBit_and, Nat.testBit_shiftRight, Nat.testBit_shiftRight, Nat.testBit_xor, Nat.testBit_and, Nat.testBit_shiftLeft, Nat.testBit_shiftRight, show 255 = 2 ^ 8 - 1 by decide, show 18446744073709551615 = 2 ^ 64 - 1 by decide, Nat.testBit_two_pow_sub_one, Nat.testBit_two_pow_sub_one]
  by_cases hi : i < 8
  · by_cases h : r ≤ R
    · have e1 : (R + 8 - r) % 8 = R - r := by omega
      have hz : x.testBit (64 - 8 * r + (8 * R + i)) = false := Nat.testBit_lt_two_pow (Nat.lt_of_lt_of_le hx (Nat.pow_le_pow_right (by decide) (by omega)))
      rw [e1, hz, show 8 * (R - r) + i = 8 * R + i - 8 * r by omega]
      simp [hi, show 8 * r ≤ 8 * R + i by omega, show 8 * R + i < 64 by omega]
    · have e1 : (R + 8 - r) % 8 = R + 8 - r := by omega
      rw [e1, show 8 * (R + 8 - r) + i = 64 - 8 * r + (8 * R + i) by omega]
      simp [hi, show ¬ 8 * r ≤ 8 * R + i by omega]
  · simp [hi]
theorem mixv_byte {y m : Nat} (hy : y < 256) (hm : m < 8) : mixv y / 2 ^ (8 * m) % 256 = tmul (fac ((8 - m) % 8)) y := by
  rw [mixv_L hy]
  have h1 : tmul (fac ((8 - m) % 8)) y = tL (fac ((8 - m) % 8)) y := by
    rw [← tmv_tL (fac_is _) hy, tmv_ok]
    rcases fac_is ((8 - m) % 8) with h | h | h | h | h <;> rw [h] <;> rfl
  rw [h1]
  have all : ∀ y : Fin 256, ∀ m : Fin 8, mixL y.val / 2 ^ (8 * m.val) % 256 = tL (fac ((8 - m.val) % 8)) y.val := by decide +kernel
  exact all ⟨y, hy⟩ ⟨m, hm⟩
/-- The byte R of a mixed column, by its first rows. -/
theorem mcol_byte (g tn : Nat → Nat) (c R : Nat) (hR : R < 8) : ∀ r, r ≤ 8 → mcol g tn c r / 2 ^ (8 * R) % 256 = (List.range r).foldl (fun a r => a ^^^ tmul (fac ((r + 8 - R) % 8)) (bx (g ((8 * (c + tn r) + r) % 64)))) 0
  | 0, _ => by simp [mcol]
  | r + 1, hr => by
    unfold mcol
    rw [byte_xor, mcol_byte g tn c R hR r (by omega), rl64_byte (mixv_lt _) (by omega) hR, mixv_byte (bx_lt _) (Nat.mod_lt _ (by decide)), List.range_succ, List.foldl_append]
    rw [show (8 - (R + 8 - r) % 8) % 8 = (r + 8 - R) % 8 by omega]
    rfl
set_option maxRecDepth 100000 in
theorem rsum_shf {g tn : Nat → Nat} (n : Nat) : rsum (fun n => bx (g n)) tn n 8 = shf g tn n := by
  unfold shf
  rw [mcol_byte g tn (n / 8) (n % 8) (by omega) 8 (Nat.le_refl _)]
  have hR8 : n % 8 < 8 := by omega
  have e0 : (8 * (n / 8 + tn 0) + 0) % 64 = 8 * ((n / 8 + tn 0) % 8) + 0 := by omega
  have e1 : (8 * (n / 8 + tn 1) + 1) % 64 = 8 * ((n / 8 + tn 1) % 8) + 1 := by omega
  have e2 : (8 * (n / 8 + tn 2) + 2) % 64 = 8 * ((n / 8 + tn 2) % 8) + 2 := by omega
  have e3 : (8 * (n / 8 + tn 3) + 3) % 64 = 8 * ((n / 8 + tn 3) % 8) + 3 := by omega
  have e4 : (8 * (n / 8 + tn 4) + 4) % 64 = 8 * ((n / 8 + tn 4) % 8) + 4 := by omega
  have e5 : (8 * (n / 8 + tn 5) + 5) % 64 = 8 * ((n / 8 + tn 5) % 8) + 5 := by omega
  have e6 : (8 * (n / 8 + tn 6) + 6) % 64 = 8 * ((n / 8 + tn 6) % 8) + 6 := by omega
  have e7 : (8 * (n / 8 + tn 7) + 7) % 64 = 8 * ((n / 8 + tn 7) % 8) + 7 := by omega
  have l8 : List.range 8 = [0, 1, 2, 3, 4, 5, 6, 7] := rfl
  generalize hR : n % 8 = R at *
  rcases lt8 hR8 with rfl | rfl | rfl | rfl | rfl | rfl | rfl | rfl <;>
  · simp only [rsum, hR, l8, List.foldl_cons, List.foldl_nil, Nat.zero_xor, Nat.reduceAdd, Nat.reduceMod, Nat.reduceSub, e0, e1, e2, e3, e4, e5, e6, e7]
    try ac_rfl


theorem info_u8 : ∃ i, Tryz.prog.info? 5 = some i ∧ i.zero = some (.int .u8 0) ∧ i.size = 1 ∧ i.bytes = 1 := by
  have h : (Tryz.prog.info? 5).map (fun i => (i.zero, i.size, i.bytes)) = some (some (.int .u8 0), 1, 1) := by kernel_rfl
  cases hi : Tryz.prog.info? 5 with
  | none => rw [hi] at h; cases h
  | some i =>
    rw [hi] at h
    simp at h
    exact ⟨i, rfl, h.1, h.2.1, h.2.2⟩
theorem Irow.congr {w : World} {g n : Nat} {f f' : Nat → Nat} (h : Irow w g n f) (e : ∀ i, i < n → f i = f' i) : Irow w g n f' := ⟨h.lt, fun i hi => by rw [h.cell i hi, e i hi]⟩
/-- Bytes as cells. -/
def u8s (f : Nat → Nat) (n : Nat) : List Value := (List.range n).map fun i => .int .u8 (f i : Nat)
theorem u8s_succ (f : Nat → Nat) (n : Nat) : u8s f (n + 1) = u8s f n ++ [.int .u8 (f n : Nat)] := by unfold u8s; rw [List.range_succ, List.map_append]; rfl
theorem u8_own {w : World} {base : Nat} {T : TypeId} {v : Value} {f : Nat → Nat} (h : w.ownsRow base T 1 v 64 (u8s f 64)) : ∃ g cap, v = .slice (some ⟨g, 0, none⟩) 64 cap ∧ ∀ i, i < 64 → w.cell? ⟨g, i, none⟩ = some (.int .u8 (f i : Nat)) := by
  obtain ⟨h1, h2⟩ := h
  rcases h2 with ⟨_, h3⟩ | ⟨g, cap, cur, rfl, hb, hg, hn2, _, hs, ht⟩
  · omega
  · refine ⟨g, cap, rfl, fun i hi => ?_⟩
    have e : cur.toList[i]? = (u8s f 64)[i]? := by rw [← ht, List.getElem?_take_of_lt (by omega)]
    rw [show (u8s f 64)[i]? = some (.int .u8 (f i : Nat)) by unfold u8s; simp [hi]] at e
    simp only [World.cell?, hg]
    simpa using e
theorem conv_u8 {w : World} {b cap : Nat} {f : Nat → Nat} (h : ∀ i, i < 64 → w.cell? ⟨b, i, none⟩ = some (.int .u8 (f i : Nat))) (hf : ∀ p, f p < 256) : (convert 51 9 (.slice (some ⟨b, 0, none⟩) 64 cap)).run Tryz.prog w = .ok (.string (txt f)) w := by
  have := run_convert_bytes_back (P := Tryz.prog) w 51 9 5 ⟨b, 0, none⟩ cap ((List.range 64).map fun i => UInt8.ofNat (f i)) Tryz.underlying51 Tryz.underlying5 Tryz.underlying9 (fun j hj => by
    have hj' : j < 64 := by simpa using hj
    rw [Addr.add_mid, Nat.zero_add, h j hj']
    simp [Nat.mod_eq_of_lt (hf j)])
  rw [show ((List.range 64).map fun i => UInt8.ofNat (f i)).length = 64 by simp] at this
  exact this
theorem ix_str (s : ByteArray) (n : Nat) (hn : n < s.size) (w : World) : (Instr.index 9 (.string s) (.int .i64 (n : Int))).run Tryz.prog w = .ok (.int .u8 ((bs s n : Nat) : Int)) w := by
  have h0 : n < s.data.size := hn
  rw [run_index_string w _ _ _ _ Tryz.underlying9, dif_pos ⟨by omega, by omega⟩]
  unfold bs
  rw [Array.getElem?_eq_getElem h0]
  rfl
/-- What lies in memory while a way of the document goes on. -/
structure Ws (W w : World) (gB cB gT cT : Nat) (gs cs : Nat → Nat) (b0 g : Nat) (f : Nat → Nat) : Prop where
  t : RTab w gB gT gs cs
  s : Irow w g 64 f
  k0 : w.cell? ⟨b0, 0, none⟩ = some (.slice (some ⟨gB, 0, none⟩) 256 cB)
  k1 : w.cell? ⟨b0, 1, none⟩ = some (.slice (some ⟨gT, 0, none⟩) 8 cT)
  d : Below W.heap.size W w
set_option maxHeartbeats 6400000 in
set_option maxRecDepth 100000 in
theorem rwayP (gB cB gT cT : Nat) (gs cs : Nat → Nat) (s : ByteArray) (hs : s.size = 64) (W : World) (hR : RTab W gB gT gs cs) :
    Calls Tryz.prog 74 #[.agg #[.slice (some ⟨gB, 0, none⟩) 256 cB, .slice (some ⟨gT, 0, none⟩) 8 cT], .string s, .bool false] W fun e w' => e = .returned (.string (txt (fwd adP tnP (bs s) 6))) ∧ Below W.heap.size W w' := by
  obtain ⟨i0, hi0, hz0, hz1, hz2⟩ := info_i64
  have HN : Hid (Tryz.prog.info? 3 = some i0 ∧ i0.zero = some (.int .i64 0) ∧ i0.size = 1 ∧ i0.bytes = 8) := ⟨hi0, hz0, hz1, hz2⟩
  clear hi0 hz0 hz1 hz2
  obtain ⟨j0, hj0, jz0, jz1, jz2⟩ := info_u8
  have HJ : Hid (Tryz.prog.info? 5 = some j0 ∧ j0.zero = some (.int .u8 0) ∧ j0.size = 1 ∧ j0.bytes = 1) := ⟨hj0, jz0, jz1, jz2⟩
  clear hj0 jz0 jz1 jz2
  have R0 : Hid (RTab (W.alloc (Obj.cells #[.slice (some ⟨gB, 0, none⟩) 256 cB, .slice (some ⟨gT, 0, none⟩) 8 cT] 31)) gB gT gs cs) := hR.below ((Below.refl _ _).alloc (Nat.le_refl _) _)
  have k0 : World.cell? (W.alloc (Obj.cells #[.slice (some ⟨gB, 0, none⟩) 256 cB, .slice (some ⟨gT, 0, none⟩) 8 cT] 31)) ⟨W.heap.size, 0, none⟩ = some (.slice (some ⟨gB, 0, none⟩) 256 cB) := by simp [go_sem]
  have k1 : World.cell? (W.alloc (Obj.cells #[.slice (some ⟨gB, 0, none⟩) 256 cB, .slice (some ⟨gT, 0, none⟩) 8 cT] 31)) ⟨W.heap.size, 1, none⟩ = some (.slice (some ⟨gT, 0, none⟩) 8 cT) := by simp [go_sem]
  have HK : Hid (World.cell? (W.alloc (Obj.cells #[.slice (some ⟨gB, 0, none⟩) 256 cB, .slice (some ⟨gT, 0, none⟩) 8 cT] 31)) ⟨W.heap.size, 0, none⟩ = some (.slice (some ⟨gB, 0, none⟩) 256 cB) ∧ World.cell? (W.alloc (Obj.cells #[.slice (some ⟨gB, 0, none⟩) 256 cB, .slice (some ⟨gT, 0, none⟩) 8 cT] 31)) ⟨W.heap.size, 1, none⟩ = some (.slice (some ⟨gT, 0, none⟩) 8 cT)) := ⟨k0, k1⟩
  have HD : Hid (Below W.heap.size W (W.alloc (Obj.cells #[.slice (some ⟨gB, 0, none⟩) 256 cB, .slice (some ⟨gT, 0, none⟩) 8 cT] 31))) := (Below.refl _ _).alloc (Nat.le_refl _) _
  clear hR k0 k1
  go_enter Tryz.func74, Tryz.ntmps74
  go_wp2
  generalize (W.alloc (Obj.cells #[.slice (some ⟨gB, 0, none⟩) 256 cB, .slice (some ⟨gT, 0, none⟩) 8 cT] 31)) = w0 at *
  go_loopw [7, 8] (fun v u wr => ∃ n : Nat, n ≤ 64 ∧ u = .int .i64 n ∧ Hid (wr.ownsRow w0.heap.size 3 1 v n (ints (bs s) n)) ∧ Hid (Below w0.heap.size w0 wr)) (fun _ u _ => 64 - (intOf u).toNat)
  case atStart => exact ⟨0, by omega, rfl, World.ownsRow_nil _ _ _ _, Below.refl _ _⟩
  case round =>
   obtain ⟨n, hn, rfl, HO, HB⟩ := hrel
   by_cases hnl : n < 64
   · have n1 : (n : Int) < 64 := by omega
     have hix := ix_str s n (by omega)
     have HE : Hid (ints (bs s) (n + 1) = ints (bs s) n ++ [.int .i64 ((bs s n : Nat) : Int)]) := ints_succ (bs s) n
     have hl := bs_lt s n
     generalize bs s n = y at *
     have hw : IntKind.i64.wrap (y : Int) = (y : Int) := by rw [IntKind.wrap_i64]; omega
     go_wp2_with (at_builtin; refine wpList_append_own _ rfl _ _ 28 rfl w0.heap.size 3 i0 (.int .i64 0) 1 8 Tryz.underlying28 HN.out.1 HN.out.2.1 HN.out.2.2.1 HN.out.2.2.2 rfl (by decide) _ _ _ rfl (own_below HO.out (by go_grown)) ⟨wr.heap.size, 0, none⟩ 1 1 [.int .i64 (y : Int)] rfl rfl (fun p u hu => by rcases p with _ | p <;> simp at hu; subst hu; simp [go_sem]) (by intro u hu; simp at hu; subst hu; rfl) (by simp only [maxLen]; omega) (by omega) (by have := HB.out.size; simp; omega) ?_; intro v' w' hown' hgr _)
     refine ⟨⟨n + 1, hnl, by simp, ?_, ?_⟩, by simp [intOf]; omega⟩
     · rw [HE.out]; exact hown'
     · exact (HB.out.alloc HB.out.size _).grown hgr (by have := HB.out.size; simp; omega) fun q hq => (HO.out.lt q hq).1
   · have hnn : ¬ ((n : Int) < 64) := by omega
     have HG : Hid (∃ g c, u7 = .slice (some ⟨g, 0, none⟩) 64 c ∧ w0.heap.size ≤ g ∧ Irow wr g 64 (bs s)) := by
       have e : n = 64 := by omega
       rw [e] at HO
       exact irow_own (by decide) HO.out
     obtain ⟨ga, ca, rfl, _, hA⟩ := HG.out
     have S0 : Hid (Ws W wr gB cB gT cT gs cs W.heap.size ga (fwd adP tnP (bs s) 0)) := ⟨R0.out.below HB.out, hA, keepc HB.out HK.out.1, keepc HB.out HK.out.2, HD.out.trans (HB.out.mono HD.out.size)⟩
     clear HG hA HO HB R0 HK HD
     go_wp2
     go_loopw [7, 9] (fun v u w1 => ∃ i g c : Nat, i ≤ 6 ∧ v = .slice (some ⟨g, 0, none⟩) 64 c ∧ u = .int .i64 i ∧ Hid (Ws W w1 gB cB gT cT gs cs W.heap.size g (fwd adP tnP (bs s) i))) (fun _ u _ => 6 - (intOf u).toNat)
     case atStart => exact ⟨0, ga, ca, by omega, rfl, rfl, S0⟩
     case round =>
      rename World => w1
      obtain ⟨i, g, c, hi, rfl, rfl, S1⟩ := hrel
      clear S0
      have hF := fwd_lt adP tnP (bs s) (fun F i h p => adP_lt h i p) (bs_lt s) i
      by_cases hil : i < 6
      · have i1 : (i : Int) < 6 := by omega
        have c0 := S1.out.k0
        have c1 := S1.out.k1
        have HX : Hid (Calls Tryz.prog 107 #[.agg #[.slice (some ⟨gB, 0, none⟩) 256 cB, .slice (some ⟨gT, 0, none⟩) 8 cT], .slice (some ⟨g, 0, none⟩) 64 c, .bool false, .int .i64 (i : Int)] w1 fun e w' => RRow w1 (fun n => rsum (fun n => bx (adP (fwd adP tnP (bs s) i) i n)) tnP n 8) e w') := rroundP gB cB gT cT gs cs g c i _ (by omega) w1 S1.out.t S1.out.s hF
        go_wp2_with (go_at_call 107; refine HX.out.mono ?_; rintro e w2 ⟨g2, c2, rfl, hI, hb2⟩; have S2 : Hid (Ws W w2 gB cB gT cT gs cs W.heap.size g2 (fwd adP tnP (bs s) (i + 1))) := ⟨S1.out.t.below hb2, hI.congr (fun n _ => rsum_shf n), keepc hb2 S1.out.k0, keepc hb2 S1.out.k1, S1.out.d.trans (hb2.mono S1.out.d.size)⟩; clear hI hb2)
        exact ⟨⟨i + 1, g2, c2, hil, rfl, by simp, S2⟩, by simp [intOf]; omega⟩
      · have hin : ¬ ((i : Int) < 6) := by omega
        have HE6 : Hid (fwd adP tnP (bs s) i = fwd adP tnP (bs s) 6) := by rw [show i = 6 by omega]; exact (rfl : _ = _)
        have HF : Hid (∀ p, fwd adP tnP (bs s) i p < 256) := hF
        clear hF
        generalize fwd adP tnP (bs s) i = F at *
        go_wp2
        go_loopw [10, 11] (fun v u w2 => ∃ n : Nat, n ≤ 64 ∧ u = .int .i64 n ∧ Hid (w2.ownsRow w1.heap.size 5 1 v n (u8s F n)) ∧ Hid (Below w1.heap.size w1 w2)) (fun _ u _ => 64 - (intOf u).toNat)
        case atStart => exact ⟨0, by omega, rfl, World.ownsRow_nil _ _ _ _, Below.refl _ _⟩
        case round =>
         rename World => w2
         obtain ⟨n, hn, rfl, HO, HB⟩ := hrel
         by_cases hnl2 : n < 64
         · have n1 : (n : Int) < 64 := by omega
           have n2 : (0 : Int) ≤ (n : Int) := by omega
           have c0 := (S1.out.s.below HB.out).cell n hnl2
           have hl := HF.out n
           have HE : Hid (u8s F (n + 1) = u8s F n ++ [.int .u8 ((F n : Nat) : Int)]) := u8s_succ F n
           generalize F n = y at *
           have hw : IntKind.u8.wrap (y : Int) = (y : Int) := by rw [IntKind.wrap_u8']; omega
           have hw2 : (y : Int) % 256 = (y : Int) := by omega
           go_wp2_with (at_builtin; refine wpList_append_own _ rfl _ _ 51 rfl w1.heap.size 5 j0 (.int .u8 0) 1 1 Tryz.underlying51 HJ.out.1 HJ.out.2.1 HJ.out.2.2.1 HJ.out.2.2.2 rfl (by decide) _ _ _ rfl (own_below HO.out (by go_grown)) ⟨w2.heap.size, 0, none⟩ 1 1 [.int .u8 (y : Int)] rfl rfl (fun p u hu => by rcases p with _ | p <;> simp at hu; subst hu; simp [go_sem]) (by intro u hu; simp at hu; subst hu; rfl) (by simp only [maxLen]; omega) (by omega) (by have := HB.out.size; simp; omega) ?_; intro v' w' hown' hgr _)
           refine ⟨⟨n + 1, hnl2, by simp, ?_, ?_⟩, by simp [intOf]; omega⟩
           · rw [HE.out]; exact hown'
           · exact (HB.out.alloc HB.out.size _).grown hgr (by have := HB.out.size; simp; omega) fun q hq => (HO.out.lt q hq).1
         · have hnn2 : ¬ ((n : Int) < 64) := by omega
           have HG : Hid (∃ g c, u10 = .slice (some ⟨g, 0, none⟩) 64 c ∧ ∀ i, i < 64 → w2.cell? ⟨g, i, none⟩ = some (.int .u8 (F i : Nat))) := by
             have e : n = 64 := by omega
             rw [e] at HO
             exact u8_own HO.out
           obtain ⟨gb, cb, rfl, hC⟩ := HG.out
           have hcv := conv_u8 (cap := cb) hC HF.out
           have D9 : Hid (Below W.heap.size W w2) := S1.out.d.trans (HB.out.mono S1.out.d.size)
           clear HG hC HO HB
           generalize htx : txt F = tx at *
           go_wp2
           go_ret
           exact ⟨by rw [← HE6.out, htx]; rfl, D9.out⟩
set_option maxHeartbeats 6400000 in
set_option maxRecDepth 100000 in
theorem rwayQ (gB cB gT cT : Nat) (gs cs : Nat → Nat) (s : ByteArray) (hs : s.size = 64) (W : World) (hR : RTab W gB gT gs cs) :
    Calls Tryz.prog 74 #[.agg #[.slice (some ⟨gB, 0, none⟩) 256 cB, .slice (some ⟨gT, 0, none⟩) 8 cT], .string s, .bool true] W fun e w' => e = .returned (.string (txt (fwd adQ tnQ (bs s) 6))) ∧ Below W.heap.size W w' := by
  obtain ⟨i0, hi0, hz0, hz1, hz2⟩ := info_i64
  have HN : Hid (Tryz.prog.info? 3 = some i0 ∧ i0.zero = some (.int .i64 0) ∧ i0.size = 1 ∧ i0.bytes = 8) := ⟨hi0, hz0, hz1, hz2⟩
  clear hi0 hz0 hz1 hz2
  obtain ⟨j0, hj0, jz0, jz1, jz2⟩ := info_u8
  have HJ : Hid (Tryz.prog.info? 5 = some j0 ∧ j0.zero = some (.int .u8 0) ∧ j0.size = 1 ∧ j0.bytes = 1) := ⟨hj0, jz0, jz1, jz2⟩
  clear hj0 jz0 jz1 jz2
  have R0 : Hid (RTab (W.alloc (Obj.cells #[.slice (some ⟨gB, 0, none⟩) 256 cB, .slice (some ⟨gT, 0, none⟩) 8 cT] 31)) gB gT gs cs) := hR.below ((Below.refl _ _).alloc (Nat.le_refl _) _)
  have k0 : World.cell? (W.alloc (Obj.cells #[.slice (some ⟨gB, 0, none⟩) 256 cB, .slice (some ⟨gT, 0, none⟩) 8 cT] 31)) ⟨W.heap.size, 0, none⟩ = some (.slice (some ⟨gB, 0, none⟩) 256 cB) := by simp [go_sem]
  have k1 : World.cell? (W.alloc (Obj.cells #[.slice (some ⟨gB, 0, none⟩) 256 cB, .slice (some ⟨gT, 0, none⟩) 8 cT] 31)) ⟨W.heap.size, 1, none⟩ = some (.slice (some ⟨gT, 0, none⟩) 8 cT) := by simp [go_sem]
  have HK : Hid (World.cell? (W.alloc (Obj.cells #[.slice (some ⟨gB, 0, none⟩) 256 cB, .slice (some ⟨gT, 0, none⟩) 8 cT] 31)) ⟨W.heap.size, 0, none⟩ = some (.slice (some ⟨gB, 0, none⟩) 256 cB) ∧ World.cell? (W.alloc (Obj.cells #[.slice (some ⟨gB, 0, none⟩) 256 cB, .slice (some ⟨gT, 0, none⟩) 8 cT] 31)) ⟨W.heap.size, 1, none⟩ = some (.slice (some ⟨gT, 0, none⟩) 8 cT)) := ⟨k0, k1⟩
  have HD : Hid (Below W.heap.size W (W.alloc (Obj.cells #[.slice (some ⟨gB, 0, none⟩) 256 cB, .slice (some ⟨gT, 0, none⟩) 8 cT] 31))) := (Below.refl _ _).alloc (Nat.le_refl _) _
  clear hR k0 k1
  go_enter Tryz.func74, Tryz.ntmps74
  go_wp2
  generalize (W.alloc (Obj.cells #[.slice (some ⟨gB, 0, none⟩) 256 cB, .slice (some ⟨gT, 0, none⟩) 8 cT] 31)) = w0 at *
  go_loopw [7, 8] (fun v u wr => ∃ n : Nat, n ≤ 64 ∧ u = .int .i64 n ∧ Hid (wr.ownsRow w0.heap.size 3 1 v n (ints (bs s) n)) ∧ Hid (Below w0.heap.size w0 wr)) (fun _ u _ => 64 - (intOf u).toNat)
  case atStart => exact ⟨0, by omega, rfl, World.ownsRow_nil _ _ _ _, Below.refl _ _⟩
  case round =>
   obtain ⟨n, hn, rfl, HO, HB⟩ := hrel
   by_cases hnl : n < 64
   · have n1 : (n : Int) < 64 := by omega
     have hix := ix_str s n (by omega)
     have HE : Hid (ints (bs s) (n + 1) = ints (bs s) n ++ [.int .i64 ((bs s n : Nat) : Int)]) := ints_succ (bs s) n
     have hl := bs_lt s n
     generalize bs s n = y at *
     have hw : IntKind.i64.wrap (y : Int) = (y : Int) := by rw [IntKind.wrap_i64]; omega
     go_wp2_with (at_builtin; refine wpList_append_own _ rfl _ _ 28 rfl w0.heap.size 3 i0 (.int .i64 0) 1 8 Tryz.underlying28 HN.out.1 HN.out.2.1 HN.out.2.2.1 HN.out.2.2.2 rfl (by decide) _ _ _ rfl (own_below HO.out (by go_grown)) ⟨wr.heap.size, 0, none⟩ 1 1 [.int .i64 (y : Int)] rfl rfl (fun p u hu => by rcases p with _ | p <;> simp at hu; subst hu; simp [go_sem]) (by intro u hu; simp at hu; subst hu; rfl) (by simp only [maxLen]; omega) (by omega) (by have := HB.out.size; simp; omega) ?_; intro v' w' hown' hgr _)
     refine ⟨⟨n + 1, hnl, by simp, ?_, ?_⟩, by simp [intOf]; omega⟩
     · rw [HE.out]; exact hown'
     · exact (HB.out.alloc HB.out.size _).grown hgr (by have := HB.out.size; simp; omega) fun q hq => (HO.out.lt q hq).1
   · have hnn : ¬ ((n : Int) < 64) := by omega
     have HG : Hid (∃ g c, u7 = .slice (some ⟨g, 0, none⟩) 64 c ∧ w0.heap.size ≤ g ∧ Irow wr g 64 (bs s)) := by
       have e : n = 64 := by omega
       rw [e] at HO
       exact irow_own (by decide) HO.out
     obtain ⟨ga, ca, rfl, _, hA⟩ := HG.out
     have S0 : Hid (Ws W wr gB cB gT cT gs cs W.heap.size ga (fwd adQ tnQ (bs s) 0)) := ⟨R0.out.below HB.out, hA, keepc HB.out HK.out.1, keepc HB.out HK.out.2, HD.out.trans (HB.out.mono HD.out.size)⟩
     clear HG hA HO HB R0 HK HD
     go_wp2
     go_loopw [7, 9] (fun v u w1 => ∃ i g c : Nat, i ≤ 6 ∧ v = .slice (some ⟨g, 0, none⟩) 64 c ∧ u = .int .i64 i ∧ Hid (Ws W w1 gB cB gT cT gs cs W.heap.size g (fwd adQ tnQ (bs s) i))) (fun _ u _ => 6 - (intOf u).toNat)
     case atStart => exact ⟨0, ga, ca, by omega, rfl, rfl, S0⟩
     case round =>
      rename World => w1
      obtain ⟨i, g, c, hi, rfl, rfl, S1⟩ := hrel
      clear S0
      have hF := fwd_lt adQ tnQ (bs s) (fun F i h p => adQ_lt h i p) (bs_lt s) i
      by_cases hil : i < 6
      · have i1 : (i : Int) < 6 := by omega
        have c0 := S1.out.k0
        have c1 := S1.out.k1
        have HX : Hid (Calls Tryz.prog 107 #[.agg #[.slice (some ⟨gB, 0, none⟩) 256 cB, .slice (some ⟨gT, 0, none⟩) 8 cT], .slice (some ⟨g, 0, none⟩) 64 c, .bool true, .int .i64 (i : Int)] w1 fun e w' => RRow w1 (fun n => rsum (fun n => bx (adQ (fwd adQ tnQ (bs s) i) i n)) tnQ n 8) e w') := rroundQ gB cB gT cT gs cs g c i _ (by omega) w1 S1.out.t S1.out.s hF
        go_wp2_with (go_at_call 107; refine HX.out.mono ?_; rintro e w2 ⟨g2, c2, rfl, hI, hb2⟩; have S2 : Hid (Ws W w2 gB cB gT cT gs cs W.heap.size g2 (fwd adQ tnQ (bs s) (i + 1))) := ⟨S1.out.t.below hb2, hI.congr (fun n _ => rsum_shf n), keepc hb2 S1.out.k0, keepc hb2 S1.out.k1, S1.out.d.trans (hb2.mono S1.out.d.size)⟩; clear hI hb2)
        exact ⟨⟨i + 1, g2, c2, hil, rfl, by simp, S2⟩, by simp [intOf]; omega⟩
      · have hin : ¬ ((i : Int) < 6) := by omega
        have HE6 : Hid (fwd adQ tnQ (bs s) i = fwd adQ tnQ (bs s) 6) := by rw [show i = 6 by omega]; exact (rfl : _ = _)
        have HF : Hid (∀ p, fwd adQ tnQ (bs s) i p < 256) := hF
        clear hF
        generalize fwd adQ tnQ (bs s) i = F at *
        go_wp2
        go_loopw [10, 11] (fun v u w2 => ∃ n : Nat, n ≤ 64 ∧ u = .int .i64 n ∧ Hid (w2.ownsRow w1.heap.size 5 1 v n (u8s F n)) ∧ Hid (Below w1.heap.size w1 w2)) (fun _ u _ => 64 - (intOf u).toNat)
        case atStart => exact ⟨0, by omega, rfl, World.ownsRow_nil _ _ _ _, Below.refl _ _⟩
        case round =>
         rename World => w2
         obtain ⟨n, hn, rfl, HO, HB⟩ := hrel
         by_cases hnl2 : n < 64
         · have n1 : (n : Int) < 64 := by omega
           have n2 : (0 : Int) ≤ (n : Int) := by omega
           have c0 := (S1.out.s.below HB.out).cell n hnl2
           have hl := HF.out n
           have HE : Hid (u8s F (n + 1) = u8s F n ++ [.int .u8 ((F n : Nat) : Int)]) := u8s_succ F n
           generalize F n = y at *
           have hw : IntKind.u8.wrap (y : Int) = (y : Int) := by rw [IntKind.wrap_u8']; omega
           have hw2 : (y : Int) % 256 = (y : Int) := by omega
           go_wp2_with (at_builtin; refine wpList_append_own _ rfl _ _ 51 rfl w1.heap.size 5 j0 (.int .u8 0) 1 1 Tryz.underlying51 HJ.out.1 HJ.out.2.1 HJ.out.2.2.1 HJ.out.2.2.2 rfl (by decide) _ _ _ rfl (own_below HO.out (by go_grown)) ⟨w2.heap.size, 0, none⟩ 1 1 [.int .u8 (y : Int)] rfl rfl (fun p u hu => by rcases p with _ | p <;> simp at hu; subst hu; simp [go_sem]) (by intro u hu; simp at hu; subst hu; rfl) (by simp only [maxLen]; omega) (by omega) (by have := HB.out.size; simp; omega) ?_; intro v' w' hown' hgr _)
           refine ⟨⟨n + 1, hnl2, by simp, ?_, ?_⟩, by simp [intOf]; omega⟩
           · rw [HE.out]; exact hown'
           · exact (HB.out.alloc HB.out.size _).grown hgr (by have := HB.out.size; simp; omega) fun q hq => (HO.out.lt q hq).1
         · have hnn2 : ¬ ((n : Int) < 64) := by omega
           have HG : Hid (∃ g c, u10 = .slice (some ⟨g, 0, none⟩) 64 c ∧ ∀ i, i < 64 → w2.cell? ⟨g, i, none⟩ = some (.int .u8 (F i : Nat))) := by
             have e : n = 64 := by omega
             rw [e] at HO
             exact u8_own HO.out
           obtain ⟨gb, cb, rfl, hC⟩ := HG.out
           have hcv := conv_u8 (cap := cb) hC HF.out
           have D9 : Hid (Below W.heap.size W w2) := S1.out.d.trans (HB.out.mono S1.out.d.size)
           clear HG hC HO HB
           generalize htx : txt F = tx at *
           go_wp2
           go_ret
           exact ⟨by rw [← HE6.out, htx]; rfl, D9.out⟩


end Go.Proofs.YtopmkooegpaeaaaGreat
