/- The document's tables, rounds and ways of layer 10, and the walk of PermWays, over the seat's translation. -/
import Derived.Test.YtfepgoddoohpbaaPmH
import Derived.Test.YtfepgoddoohpbaaPeel
import Derived.Deep.SlicePairs
import Derived.Maps.AppendAt
import Derived.Test.YtfepgoddoohpbaaPmX
import Derived.Test.YtfepgoddoohpbaaPmZ
import Derived.Test.YtfepgoddoohpbaaPnA
namespace Go.Proofs.Ytfepgoddoohpbaa
open Go.RowKit

theorem info_i64 : ∃ i, Try.prog.info? 3 = some i ∧ i.zero = some (.int .i64 0) ∧ i.size = 1 ∧ i.bytes = 8 := by
  have h : (Try.prog.info? 3).map (fun i => (i.zero, i.size, i.bytes)) = some (some (.int .i64 0), 1, 8) := by kernel_rfl
  cases hi : Try.prog.info? 3 with
  | none => rw [hi] at h; cases h
  | some i =>
    rw [hi] at h
    simp at h
    exact ⟨i, rfl, h.1, h.2.1, h.2.2⟩
/-- Numbers as cells. -/
def ints (f : Nat → Nat) (n : Nat) : List Value := (List.range n).map fun i => .int .i64 (f i : Nat)
theorem ints_len (f : Nat → Nat) (n : Nat) : (ints f n).length = n := by unfold ints; simp
theorem ints_succ (f : Nat → Nat) (n : Nat) : ints f (n + 1) = ints f n ++ [.int .i64 (f n : Nat)] := by unfold ints; rw [List.range_succ, List.map_append]; rfl
theorem ints_get (f : Nat → Nat) (n i : Nat) (h : i < n) : (ints f n)[i]? = some (.int .i64 (f i : Nat)) := by unfold ints; simp [h]
/-- Numbers that lie in a block of their own. -/
structure Irow (w : World) (g n : Nat) (f : Nat → Nat) : Prop where
  lt : g < w.heap.size
  cell : ∀ i, i < n → w.cell? ⟨g, i, none⟩ = some (.int .i64 (f i : Nat))
theorem Irow.below {w w' : World} {g n : Nat} {f : Nat → Nat} (h : Irow w g n f) (hb : Below w.heap.size w w') : Irow w' g n f :=
  ⟨Nat.lt_of_lt_of_le h.lt hb.size, fun i hi => by rw [hb.cell (p := ⟨g, i, none⟩) h.lt]; exact h.cell i hi⟩
theorem irow_own {w : World} {base : Nat} {T : TypeId} {v : Value} {n : Nat} {f : Nat → Nat} (hn : 0 < n) (h : w.ownsRow base T 1 v n (ints f n)) : ∃ g cap, v = .slice (some ⟨g, 0, none⟩) n cap ∧ base ≤ g ∧ Irow w g n f := by
  obtain ⟨h1, h2⟩ := h
  rcases h2 with ⟨_, h3⟩ | ⟨g, cap, cur, rfl, hb, hg, hn2, _, hs, ht⟩
  · omega
  · refine ⟨g, cap, rfl, hb, (Array.getElem?_eq_some_iff.1 hg).1, fun i hi => ?_⟩
    have hlt : i < cur.size := by omega
    have e : cur.toList[i]? = (ints f n)[i]? := by rw [← ht, List.getElem?_take_of_lt (by omega)]
    rw [ints_get f n i hi] at e
    simp only [World.cell?, hg]
    simpa using e
/-- What lies in memory while the boxes are made. -/
structure Mk1 (W w : World) (vB : Value) (i : Nat) : Prop where
  r0 : w.cell? ⟨W.heap.size, 0, none⟩ = some (.slice none 0 0)
  r1 : w.cell? ⟨W.heap.size, 1, none⟩ = some (.slice none 0 0)
  g0 : w.frozen? ⟨W.heap.size, 0, none⟩ = false
  g1 : w.frozen? ⟨W.heap.size, 1, none⟩ = false
  c0 : w.cell? ⟨W.heap.size + 1, 0, none⟩ = some vB
  c1 : w.cell? ⟨W.heap.size + 1, 1, none⟩ = some (.slice none 0 0)
  f0 : w.frozen? ⟨W.heap.size + 1, 0, none⟩ = false
  f1 : w.frozen? ⟨W.heap.size + 1, 1, none⟩ = false
  o : w.ownsRow (W.heap.size + 1 + 1) 3 1 vB i (ints bx i)
  d : Below W.heap.size W w
theorem Mk1.below {W w w' : World} {vB : Value} {i : Nat} (h : Mk1 W w vB i) (k : Below w.heap.size w w') : Mk1 W w' vB i :=
  ⟨keepc k h.r0, keepc k h.r1, keepf k h.r0 h.g0, keepf k h.r1 h.g1, keepc k h.c0, keepc k h.c1, keepf k h.c0 h.f0, keepf k h.c1 h.f1, own_below h.o k, h.d.trans (k.mono h.d.size)⟩
theorem Mk1.drew {W w : World} {vB : Value} {i : Nat} (h : Mk1 W w vB i) : Mk1 W w.drew vB i := ⟨h.r0, h.r1, h.g0, h.g1, h.c0, h.c1, h.f0, h.f1, h.o, h.d.drew⟩
/-- Behind an append, and the store of what came of it. -/
theorem Mk1.next {W w w' : World} {vB v' : Value} {i : Nat} (h : Mk1 W w vB i) (hg : w.grownBy w' vB.ownBlock) (ho : w'.ownsRow (W.heap.size + 1 + 1) 3 1 v' (i + 1) (ints bx (i + 1))) : Mk1 W (w'.setCell ⟨W.heap.size + 1, 0, none⟩ v') v' (i + 1) ∧ w'.cell? ⟨W.heap.size + 1, 0, none⟩ = some vB ∧ w'.frozen? ⟨W.heap.size + 1, 0, none⟩ = false := by
  have hlt : W.heap.size + 1 < w.heap.size := cell_lt h.c0
  have hrow : ∀ k, vB.ownBlock = some k → W.heap.size + 1 + 1 ≤ k := fun k hk => by
    obtain ⟨_, h2⟩ := h.o
    rcases h2 with ⟨rfl, _⟩ | ⟨g, cap, cur, rfl, hb, _⟩
    · cases hk
    · simp [Value.ownBlock] at hk
      omega
  have e0 : w'.heap[W.heap.size]? = w.heap[W.heap.size]? := hg.block _ (by omega) (fun e => by have := hrow _ e.symm; omega)
  have e1 : w'.heap[W.heap.size + 1]? = w.heap[W.heap.size + 1]? := hg.block _ hlt (fun e => by have := hrow _ e.symm; omega)
  have x0 : ∀ j, w'.cell? ⟨W.heap.size, j, none⟩ = w.cell? ⟨W.heap.size, j, none⟩ := fun j => World.cell?_of_block e0
  have y0 : ∀ j, w'.frozen? ⟨W.heap.size, j, none⟩ = w.frozen? ⟨W.heap.size, j, none⟩ := fun j => World.frozen?_of_block e0
  have x1' : ∀ j, w'.cell? ⟨W.heap.size + 1, j, none⟩ = w.cell? ⟨W.heap.size + 1, j, none⟩ := fun j => World.cell?_of_block e1
  have y1 : ∀ j, w'.frozen? ⟨W.heap.size + 1, j, none⟩ = w.frozen? ⟨W.heap.size + 1, j, none⟩ := fun j => World.frozen?_of_block e1
  have D : Below W.heap.size W w' := h.d.grown hg h.d.size (fun k hk => by have := hrow k hk; omega)
  refine ⟨⟨?_, ?_, ?_, ?_, ?_, ?_, ?_, ?_, ?_, D.setCell (Nat.le_succ _) _⟩, by rw [x1']; exact h.c0, by rw [y1]; exact h.f0⟩
  · simp [go_sem, x0, h.r0]
  · simp [go_sem, x0, h.r1]
  · simp [go_sem, y0, h.g0]
  · simp [go_sem, y0, h.g1]
  · simp [go_sem, x1', h.c0]
  · simp [go_sem, x1', h.c1]
  · simp [go_sem, y1, h.f0]
  · simp [go_sem, y1, h.f1]
  · exact ownsRow_setCell_below ho (by show W.heap.size + 1 < W.heap.size + 1 + 1; omega) _
/-- Rows of 256 as cells. -/
def slcs (gs cs : Nat → Nat) (k : Nat) : List Value := (List.range k).map fun j => .slice (some ⟨gs j, 0, none⟩) 256 (cs j)
theorem slcs_succ {gs cs : Nat → Nat} {k g c : Nat} : slcs (upd gs k g) (upd cs k c) (k + 1) = slcs gs cs k ++ [.slice (some ⟨g, 0, none⟩) 256 c] := by
  unfold slcs
  rw [List.range_succ, List.map_append]
  congr 1
  · refine List.map_congr_left fun j hj => ?_
    have : j < k := by simpa using hj
    unfold upd
    rw [if_neg (by omega), if_neg (by omega)]
  · simp [upd]
theorem Irow.block {w w' : World} {g n : Nat} {f : Nat → Nat} (h : Irow w g n f) (e : w'.heap[g]? = w.heap[g]?) (hs : w.heap.size ≤ w'.heap.size) : Irow w' g n f :=
  ⟨Nat.lt_of_lt_of_le h.lt hs, fun i hi => by rw [World.cell?_of_block (w := w) (a := ⟨g, i, none⟩) e]; exact h.cell i hi⟩
theorem Irow.setOther {w : World} {g n p o : Nat} {f : Nat → Nat} (h : Irow w g n f) (hne : g ≠ p) (v : Value) : Irow (w.setCell ⟨p, o, none⟩ v) g n f :=
  ⟨by simpa [go_sem] using h.lt, fun i hi => by rw [World.cell?_setCell_far w ⟨p, o, none⟩ ⟨g, i, none⟩ v (fun e => hne e.symm)]; exact h.cell i hi⟩
theorem own_slc {w : World} {base : Nat} {T : TypeId} {v : Value} {n : Nat} {xs : List Value} (hn : 0 < n) (h : w.ownsRow base T 1 v n xs) : ∃ g cap, v = .slice (some ⟨g, 0, none⟩) n cap := by
  obtain ⟨_, h2⟩ := h
  rcases h2 with ⟨_, h3⟩ | ⟨g, cap, cur, rfl, _⟩
  · omega
  · exact ⟨g, cap, rfl⟩
/-- The document's tables: the boxes at gB, the rows of products behind gT. -/
structure RTab (w : World) (gB gT : Nat) (gs cs : Nat → Nat) : Prop where
  b : Irow w gB 256 bx
  lt : gT < w.heap.size
  t : ∀ k, k < 8 → w.cell? ⟨gT, k, none⟩ = some (.slice (some ⟨gs k, 0, none⟩) 256 (cs k))
  r : ∀ k, k < 8 → Irow w (gs k) 256 (tmul k)
theorem RTab.below {w w' : World} {gB gT : Nat} {gs cs : Nat → Nat} (h : RTab w gB gT gs cs) (q : Below w.heap.size w w') : RTab w' gB gT gs cs :=
  ⟨h.b.below q, Nat.lt_of_lt_of_le h.lt q.size, fun k hk => keepc q (h.t k hk), fun k hk => (h.r k hk).below q⟩
theorem RTab.drew {w : World} {gB gT : Nat} {gs cs : Nat → Nat} (h : RTab w gB gT gs cs) : RTab w.drew gB gT gs cs := ⟨⟨h.b.lt, h.b.cell⟩, h.lt, h.t, fun k hk => ⟨(h.r k hk).lt, (h.r k hk).cell⟩⟩
theorem RTab.setLow {w : World} {gB gT B o : Nat} {gs cs : Nat → Nat} (h : RTab w gB gT gs cs) (v : Value) (h1 : gB ≠ B) (h2 : gT ≠ B) (h3 : ∀ k, k < 8 → gs k ≠ B) : RTab (w.setCell ⟨B, o, none⟩ v) gB gT gs cs :=
  ⟨h.b.setOther h1 v, by simpa [go_sem] using h.lt, fun k hk => by rw [World.cell?_setCell_far w ⟨B, o, none⟩ ⟨gT, k, none⟩ v (fun e => h2 e.symm)]; exact h.t k hk, fun k hk => (h.r k hk).setOther (h3 k hk) v⟩
/-- The document's tables are made. -/
def RMade (W : World) (e : Ending) (w' : World) : Prop := ∃ gB cB gT cT gs cs, e = .returned (.agg #[.slice (some ⟨gB, 0, none⟩) 256 cB, .slice (some ⟨gT, 0, none⟩) 8 cT]) ∧ RTab w' gB gT gs cs ∧ Below W.heap.size W w'
/-- What lies in memory while a round of the document goes on. -/
structure Rd (W w : World) (gB cB gT cT : Nat) (gs cs : Nat → Nat) (p : Nat) (f : Nat → Nat) (b0 bt bm : Nat) (tn : Nat → Nat) : Prop where
  t : RTab w gB gT gs cs
  s : Irow w p 64 f
  k0 : w.cell? ⟨b0, 0, none⟩ = some (.slice (some ⟨gB, 0, none⟩) 256 cB)
  k1 : w.cell? ⟨b0, 1, none⟩ = some (.slice (some ⟨gT, 0, none⟩) 8 cT)
  tu : Irow w bt 8 tn
  mi : Irow w bm 8 fac
  d : Below W.heap.size W w
theorem Rd.below {W w w' : World} {gB cB gT cT : Nat} {gs cs : Nat → Nat} {p : Nat} {f : Nat → Nat} {b0 bt bm : Nat} {tn : Nat → Nat} (h : Rd W w gB cB gT cT gs cs p f b0 bt bm tn) (q : Below w.heap.size w w') : Rd W w' gB cB gT cT gs cs p f b0 bt bm tn :=
  ⟨h.t.below q, h.s.below q, keepc q h.k0, keepc q h.k1, h.tu.below q, h.mi.below q, h.d.trans (q.mono h.d.size)⟩
theorem Irow.drew {w : World} {g n : Nat} {f : Nat → Nat} (h : Irow w g n f) : Irow w.drew g n f := ⟨h.lt, h.cell⟩
theorem lit8 (w : World) (f : Nat → Nat) (a0 a1 a2 a3 a4 a5 a6 a7 : Int) (h0 : a0 = (f 0 : Nat)) (h1 : a1 = (f 1 : Nat)) (h2 : a2 = (f 2 : Nat)) (h3 : a3 = (f 3 : Nat)) (h4 : a4 = (f 4 : Nat)) (h5 : a5 = (f 5 : Nat)) (h6 : a6 = (f 6 : Nat)) (h7 : a7 = (f 7 : Nat)) :
    Irow (w.alloc (Obj.cells #[.int .i64 a0, .int .i64 a1, .int .i64 a2, .int .i64 a3, .int .i64 a4, .int .i64 a5, .int .i64 a6, .int .i64 a7] 3)) w.heap.size 8 f := by
  subst h0 h1 h2 h3 h4 h5 h6 h7
  refine ⟨by simp, fun i hi => ?_⟩
  rcases lt8 hi with rfl | rfl | rfl | rfl | rfl | rfl | rfl | rfl <;> simp [go_sem]
/-- What a byte of the document's round is, by its first factors. -/
def rsum (a tn : Nat → Nat) (n : Nat) : Nat → Nat
  | 0 => 0
  | k + 1 => rsum a tn n k ^^^ tmul (fac k) (a (8 * ((n / 8 + tn ((n % 8 + k) % 8)) % 8) + (n % 8 + k) % 8))
theorem rsum_lt (a tn : Nat → Nat) (n : Nat) : ∀ k, rsum a tn n k < 256
  | 0 => by unfold rsum; decide
  | k + 1 => by
    unfold rsum
    exact Nat.xor_lt_two_pow (n := 8) (rsum_lt a tn n k) (tmul_lt _ _)
/-- A row of numbers came back. -/
def RRow (W : World) (f : Nat → Nat) (e : Ending) (w' : World) : Prop := ∃ g cap, e = .returned (.slice (some ⟨g, 0, none⟩) 64 cap) ∧ Irow w' g 64 f ∧ Below W.heap.size W w'
theorem byte_xor (a b s : Nat) : (a ^^^ b) / 2 ^ s % 256 = (a / 2 ^ s % 256) ^^^ (b / 2 ^ s % 256) := by
  rw [byte_of, byte_of, byte_of, Nat.shiftRight_xor_distrib, Nat.and_xor_distrib_right]
theorem rl64_byte {x r R : Nat} (hx : x < 2 ^ 64) (hr : r < 8) (hR : R < 8) : rl64 x (8 * r) / 2 ^ (8 * R) % 256 = x / 2 ^ (8 * ((R + 8 - r) % 8)) % 256 := by
  rw [rl64_x hx (by omega), byte_of, byte_of]
  apply Nat.eq_of_testBit_eq
  intro i
  unfold rlx
  rw [Nat.testBit_and, Nat.testBit_and, Nat.testBit_shiftRight, Nat.testBit_shiftRight, Nat.testBit_xor, Nat.testBit_and, Nat.testBit_shiftLeft, Nat.testBit_shiftRight, show 255 = 2 ^ 8 - 1 by decide, show 18446744073709551615 = 2 ^ 64 - 1 by decide, Nat.testBit_two_pow_sub_one, Nat.testBit_two_pow_sub_one]
  by_cases hi : i < 8
  · by_cases h : r ≤ R
    · have e1 : (R + 8 - r) % 8 = R - r := by omega
      have hz : x.testBit (64 - 8 * r + (8 * R + i)) = false := Nat.testBit_lt_two_pow (Nat.lt_of_lt_of_le hx (Nat.pow_le_pow_right (by decide) (by omega)))
      rw [e1, hz, show 8 * (R - r) + i = 8 * R + i - 8 * r by omega]
      simp [hi, show 8 * r ≤ 8 * R + i by omega, show 8 * R + i < 64 by omega]
    · have e1 : (R + 8 - r) % 8 = R + 8 - r := by omega
      rw [e1, show 8 * (R + 8 - r) + i = 64 - 8 * r + (8 * R + i) by omega]
      simp [hi, show ¬ 8 * r ≤ 8 * R + i by omega]
  · simp [hi]
theorem mixv_byte {y m : Nat} (hy : y < 256) (hm : m < 8) : mixv y / 2 ^ (8 * m) % 256 = tmul (fac ((8 - m) % 8)) y := by
  rw [mixv_L hy]
  have h1 : tmul (fac ((8 - m) % 8)) y = tL (fac ((8 - m) % 8)) y := by
    rw [← tmv_tL (fac_is _) hy, tmv_ok]
    rcases fac_is ((8 - m) % 8) with h | h | h | h | h <;> rw [h] <;> rfl
  rw [h1]
  have all : ∀ y : Fin 256, ∀ m : Fin 8, mixL y.val / 2 ^ (8 * m.val) % 256 = tL (fac ((8 - m.val) % 8)) y.val := by decide +kernel
  exact all ⟨y, hy⟩ ⟨m, hm⟩
/-- The byte R of a mixed column, by its first rows. -/
theorem mcol_byte (g tn : Nat → Nat) (c R : Nat) (hR : R < 8) : ∀ r, r ≤ 8 → mcol g tn c r / 2 ^ (8 * R) % 256 = (List.range r).foldl (fun a r => a ^^^ tmul (fac ((r + 8 - R) % 8)) (bx (g ((8 * (c + tn r) + r) % 64)))) 0
  | 0, _ => by simp [mcol]
  | r + 1, hr => by
    unfold mcol
    rw [byte_xor, mcol_byte g tn c R hR r (by omega), rl64_byte (mixv_lt _) (by omega) hR, mixv_byte (bx_lt _) (Nat.mod_lt _ (by decide)), List.range_succ, List.foldl_append]
    rw [show (8 - (R + 8 - r) % 8) % 8 = (r + 8 - R) % 8 by omega]
    rfl
set_option maxRecDepth 100000 in
theorem rsum_shf {g tn : Nat → Nat} (n : Nat) : rsum (fun n => bx (g n)) tn n 8 = shf g tn n := by
  unfold shf
  rw [mcol_byte g tn (n / 8) (n % 8) (by omega) 8 (Nat.le_refl _)]
  have hR8 : n % 8 < 8 := by omega
  have e0 : (8 * (n / 8 + tn 0) + 0) % 64 = 8 * ((n / 8 + tn 0) % 8) + 0 := by omega
  have e1 : (8 * (n / 8 + tn 1) + 1) % 64 = 8 * ((n / 8 + tn 1) % 8) + 1 := by omega
  have e2 : (8 * (n / 8 + tn 2) + 2) % 64 = 8 * ((n / 8 + tn 2) % 8) + 2 := by omega
  have e3 : (8 * (n / 8 + tn 3) + 3) % 64 = 8 * ((n / 8 + tn 3) % 8) + 3 := by omega
  have e4 : (8 * (n / 8 + tn 4) + 4) % 64 = 8 * ((n / 8 + tn 4) % 8) + 4 := by omega
  have e5 : (8 * (n / 8 + tn 5) + 5) % 64 = 8 * ((n / 8 + tn 5) % 8) + 5 := by omega
  have e6 : (8 * (n / 8 + tn 6) + 6) % 64 = 8 * ((n / 8 + tn 6) % 8) + 6 := by omega
  have e7 : (8 * (n / 8 + tn 7) + 7) % 64 = 8 * ((n / 8 + tn 7) % 8) + 7 := by omega
  have l8 : List.range 8 = [0, 1, 2, 3, 4, 5, 6, 7] := rfl
  generalize hR : n % 8 = R at *
  rcases lt8 hR8 with rfl | rfl | rfl | rfl | rfl | rfl | rfl | rfl <;>
  · simp only [rsum, hR, l8, List.foldl_cons, List.foldl_nil, Nat.zero_xor, Nat.reduceAdd, Nat.reduceMod, Nat.reduceSub, e0, e1, e2, e3, e4, e5, e6, e7]
    try ac_rfl


theorem info_u8 : ∃ i, Try.prog.info? 5 = some i ∧ i.zero = some (.int .u8 0) ∧ i.size = 1 ∧ i.bytes = 1 := by
  have h : (Try.prog.info? 5).map (fun i => (i.zero, i.size, i.bytes)) = some (some (.int .u8 0), 1, 1) := by kernel_rfl
  cases hi : Try.prog.info? 5 with
  | none => rw [hi] at h; cases h
  | some i =>
    rw [hi] at h
    simp at h
    exact ⟨i, rfl, h.1, h.2.1, h.2.2⟩
theorem Irow.congr {w : World} {g n : Nat} {f f' : Nat → Nat} (h : Irow w g n f) (e : ∀ i, i < n → f i = f' i) : Irow w g n f' := ⟨h.lt, fun i hi => by rw [h.cell i hi, e i hi]⟩
/-- Bytes as cells. -/
def u8s (f : Nat → Nat) (n : Nat) : List Value := (List.range n).map fun i => .int .u8 (f i : Nat)
theorem u8s_succ (f : Nat → Nat) (n : Nat) : u8s f (n + 1) = u8s f n ++ [.int .u8 (f n : Nat)] := by unfold u8s; rw [List.range_succ, List.map_append]; rfl
theorem u8_own {w : World} {base : Nat} {T : TypeId} {v : Value} {f : Nat → Nat} (h : w.ownsRow base T 1 v 64 (u8s f 64)) : ∃ g cap, v = .slice (some ⟨g, 0, none⟩) 64 cap ∧ ∀ i, i < 64 → w.cell? ⟨g, i, none⟩ = some (.int .u8 (f i : Nat)) := by
  obtain ⟨h1, h2⟩ := h
  rcases h2 with ⟨_, h3⟩ | ⟨g, cap, cur, rfl, hb, hg, hn2, _, hs, ht⟩
  · omega
  · refine ⟨g, cap, rfl, fun i hi => ?_⟩
    have e : cur.toList[i]? = (u8s f 64)[i]? := by rw [← ht, List.getElem?_take_of_lt (by omega)]
    rw [show (u8s f 64)[i]? = some (.int .u8 (f i : Nat)) by unfold u8s; simp [hi]] at e
    simp only [World.cell?, hg]
    simpa using e
theorem conv_u8 {w : World} {b cap : Nat} {f : Nat → Nat} (h : ∀ i, i < 64 → w.cell? ⟨b, i, none⟩ = some (.int .u8 (f i : Nat))) (hf : ∀ p, f p < 256) : (convert 91 9 (.slice (some ⟨b, 0, none⟩) 64 cap)).run Try.prog w = .ok (.string (txt f)) w := by
  have := run_convert_bytes_back (P := Try.prog) w 91 9 5 ⟨b, 0, none⟩ cap ((List.range 64).map fun i => UInt8.ofNat (f i)) Try.underlying91 Try.underlying5 Try.underlying9 (fun j hj => by
    have hj' : j < 64 := by simpa using hj
    rw [Addr.add_mid, Nat.zero_add, h j hj']
    simp [Nat.mod_eq_of_lt (hf j)])
  rw [show ((List.range 64).map fun i => UInt8.ofNat (f i)).length = 64 by simp] at this
  exact this
theorem ix_str (s : ByteArray) (n : Nat) (hn : n < s.size) (w : World) : (Instr.index 9 (.string s) (.int .i64 (n : Int))).run Try.prog w = .ok (.int .u8 ((bs s n : Nat) : Int)) w := by
  have h0 : n < s.data.size := hn
  rw [run_index_string w _ _ _ _ Try.underlying9, dif_pos ⟨by omega, by omega⟩]
  unfold bs
  rw [Array.getElem?_eq_getElem h0]
  rfl
/-- What lies in memory while a way of the document goes on. -/
structure Ws (W w : World) (gB cB gT cT : Nat) (gs cs : Nat → Nat) (b0 g : Nat) (f : Nat → Nat) : Prop where
  t : RTab w gB gT gs cs
  s : Irow w g 64 f
  k0 : w.cell? ⟨b0, 0, none⟩ = some (.slice (some ⟨gB, 0, none⟩) 256 cB)
  k1 : w.cell? ⟨b0, 1, none⟩ = some (.slice (some ⟨gT, 0, none⟩) 8 cT)
  d : Below W.heap.size W w
end Go.Proofs.Ytfepgoddoohpbaa
