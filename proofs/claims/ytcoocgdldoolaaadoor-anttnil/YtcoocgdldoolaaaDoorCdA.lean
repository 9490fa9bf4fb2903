/- Contracts of math/bits at 2, antt.log, antt's turn and eachPair of two elements, and linpoly.Plain with all rows of its space, over the seat's translation. -/
import Derived.Test.YtcoocgdldoolaaaDoorLpQ
namespace Go.Proofs.YtcoocgdldoolaaaDoor
open Go.RowKit

/-- The table of math/bits that log looks into. -/
def Tab (w : World) : Prop := w.cell? ⟨1, 1, none⟩ = some (.int .u8 1)
theorem Tab.below {w w' : World} (h : Tab w) (hb : Below w.heap.size w w') : Tab w' := keepc hb h
set_option maxHeartbeats 1000000 in
theorem ones2 : Ret 19 #[.int .u64 2] (.int .i64 1) := by
  intro W
  have f1 : bits .and .u64 1 6148914691236517205 = 1 := by decide
  have f2 : bits .and .u64 2 6148914691236517205 = 0 := by decide
  have f3 : bits .and .u64 0 3689348814741910323 = 0 := by decide
  have f4 : bits .and .u64 1 3689348814741910323 = 1 := by decide
  have f5 : bits .and .u64 1 1085102592571150095 = 1 := by decide
  have f6 : bits .and .i64 1 127 = 1 := by decide
  go_enter Tryd.func19, Tryd.ntmps19
  go_wp2
  go_ret
  exact ⟨rfl, by first | exact Below.refl _ _ | go_grown⟩
set_option maxHeartbeats 1000000 in
theorem log2_any (W : World) (hT : Tab W) : Calls Tryd.prog 10 #[.int .i64 2] W fun e w' => e = .returned (.int .i64 1) ∧ Below W.heap.size W w' := by
  have h1 : W.cell? ⟨1, 1, none⟩ = some (.int .u8 1) := hT
  have f1 : IntKind.u64.wrap (-2) = 18446744073709551614 := by decide
  have f2 : bits .and .u64 2 18446744073709551614 = 2 := by decide
  go_enter Tryd.func10, Tryd.ntmps10
  go_wp2
  go_ret
  exact ⟨rfl, by first | exact Below.refl _ _ | go_grown⟩
theorem heap_set2 (w : World) (p j : Nat) (hn : j ≠ p) (a b : Nat) (u v : Value) : ((w.setCell ⟨p, a, none⟩ u).setCell ⟨p, b, none⟩ v).heap[j]? = w.heap[j]? := by
  simp [World.setCell, Array.getElem?_modify, Ne.symm hn]
theorem cell_heap {w w' : World} {b o : Nat} (h : w'.heap[b]? = w.heap[b]?) : w'.cell? ⟨b, o, none⟩ = w.cell? ⟨b, o, none⟩ := by simp [World.cell?, h]
/-- What lies there while a pair is turned: the two elements, the space's variable, the factor. -/
structure T2 (W w : World) (p Bs B q : Nat) (x y : Nat × Nat) : Prop where
  cs : w.cell? ⟨Bs, 0, none⟩ = some (.pointer (some ⟨B, 0, none⟩))
  c0 : w.cell? ⟨p, 0, none⟩ = some (.int .u64 (x.1 : Nat))
  c1 : w.cell? ⟨p, 1, none⟩ = some (.int .u64 (x.2 : Nat))
  c2 : w.cell? ⟨p, 2, none⟩ = some (.int .u64 (y.1 : Nat))
  c3 : w.cell? ⟨p, 3, none⟩ = some (.int .u64 (y.2 : Nat))
  f0 : w.cell? ⟨q, 0, none⟩ = some (.int .u64 0)
  f1 : w.cell? ⟨q, 1, none⟩ = some (.int .u64 0)
  z0 : w.frozen? ⟨p, 0, none⟩ = false
  z1 : w.frozen? ⟨p, 1, none⟩ = false
  z2 : w.frozen? ⟨p, 2, none⟩ = false
  z3 : w.frozen? ⟨p, 3, none⟩ = false
  b : Below p W w
  hp : p ≤ w.heap.size
  hw : W.heap.size ≤ w.heap.size
  kp : ∀ k, k < W.heap.size → k ≠ p → w.heap[k]? = W.heap[k]?
theorem T2.below {W w w' : World} {p Bs B q : Nat} {x y : Nat × Nat} (h : T2 W w p Bs B q x y) (k : Below w.heap.size w w') : T2 W w' p Bs B q x y :=
  ⟨keepc k h.cs, keepc k h.c0, keepc k h.c1, keepc k h.c2, keepc k h.c3, keepc k h.f0, keepc k h.f1, keepf k h.c0 h.z0, keepf k h.c1 h.z1, keepf k h.c2 h.z2, keepf k h.c3 h.z3, h.b.trans (k.mono h.hp), Nat.le_trans h.hp k.size, Nat.le_trans h.hw k.size, fun j hj hn => (k.block j (Nat.lt_of_lt_of_le hj h.hw)).trans (h.kp j hj hn)⟩
theorem T2.drew {W w : World} {p Bs B q : Nat} {x y : Nat × Nat} (h : T2 W w p Bs B q x y) : T2 W w.drew p Bs B q x y := ⟨h.cs, h.c0, h.c1, h.c2, h.c3, h.f0, h.f1, h.z0, h.z1, h.z2, h.z3, h.b.drew, h.hp, h.hw, h.kp⟩
theorem T2.facts {W w : World} {p Bs B q : Nat} {x y : Nat × Nat} (h : T2 W w p Bs B q x y) : w.cell? ⟨Bs, 0, none⟩ = some (.pointer (some ⟨B, 0, none⟩)) ∧ w.cell? ⟨p, 0, none⟩ = some (.int .u64 (x.1 : Nat)) ∧ w.cell? ⟨p, 1, none⟩ = some (.int .u64 (x.2 : Nat)) ∧ w.cell? ⟨p, 2, none⟩ = some (.int .u64 (y.1 : Nat)) ∧ w.cell? ⟨p, 3, none⟩ = some (.int .u64 (y.2 : Nat)) ∧ w.cell? ⟨q, 0, none⟩ = some (.int .u64 0) ∧ w.cell? ⟨q, 1, none⟩ = some (.int .u64 0) := ⟨h.cs, h.c0, h.c1, h.c2, h.c3, h.f0, h.f1⟩
theorem T2.zs {W w : World} {p Bs B q : Nat} {x y : Nat × Nat} (h : T2 W w p Bs B q x y) : w.frozen? ⟨p, 0, none⟩ = false ∧ w.frozen? ⟨p, 1, none⟩ = false ∧ w.frozen? ⟨p, 2, none⟩ = false ∧ w.frozen? ⟨p, 3, none⟩ = false := ⟨h.z0, h.z1, h.z2, h.z3⟩
/-- The first element is stored anew. -/
theorem T2.low {W w : World} {p Bs B q : Nat} {x y : Nat × Nat} (h : T2 W w p Bs B q x y) (h1 : ¬ Bs = p) (h2 : ¬ q = p) : T2 W ((w.setCell ⟨p, 0, none⟩ (.int .u64 (x.1 : Nat))).setCell ⟨p, 1, none⟩ (.int .u64 (x.2 : Nat))) p Bs B q x y := by
  obtain ⟨cs, c0, c1, c2, c3, f0, f1, z0, z1, z2, z3, b, hp, hw, kp⟩ := h
  exact ⟨by simp [go_sem, *], by simp [go_sem, *], by simp [go_sem, *], by simp [go_sem, *], by simp [go_sem, *], by simp [go_sem, *], by simp [go_sem, *], by simp [go_sem, *], by simp [go_sem, *], by simp [go_sem, *], by simp [go_sem, *], (b.setCell (Nat.le_refl _) _).setCell (Nat.le_refl _) _, by simpa using hp, by simpa using hw, fun j hj hn => (heap_set2 w p j hn _ _ _ _).trans (kp j hj hn)⟩
set_option maxHeartbeats 4000000 in
theorem turn2 (p Bs B : Nat) (l : Int) (x y z : Nat × Nat) (W : World) (hBs : Bs < p) (hp : p < W.heap.size)
    (cs : W.cell? ⟨Bs, 0, none⟩ = some (.pointer (some ⟨B, 0, none⟩))) (c0 : W.cell? ⟨p, 0, none⟩ = some (.int .u64 (x.1 : Nat))) (c1 : W.cell? ⟨p, 1, none⟩ = some (.int .u64 (x.2 : Nat))) (c2 : W.cell? ⟨p, 2, none⟩ = some (.int .u64 (y.1 : Nat))) (c3 : W.cell? ⟨p, 3, none⟩ = some (.int .u64 (y.2 : Nat)))
    (fz : ∀ i, i < 4 → W.frozen? ⟨p, i, none⟩ = false)
    (HL : Hid (∀ w, Below p W w → Calls Tryd.prog 16 #[.pointer (some ⟨B, 0, none⟩)] w fun e w' => e = .returned (.int .i64 l) ∧ Below w.heap.size w w'))
    (HM : Hid (Ret 15 #[.int .i64 l, .agg #[.int .u64 (y.1 : Nat), .int .u64 (y.2 : Nat)], .agg #[.int .u64 0, .int .u64 0]] (.agg #[.int .u64 0, .int .u64 0])))
    (HA : Hid (Ret 14 #[.agg #[.int .u64 (x.1 : Nat), .int .u64 (x.2 : Nat)], .agg #[.int .u64 0, .int .u64 0]] (.agg #[.int .u64 (x.1 : Nat), .int .u64 (x.2 : Nat)])))
    (HB : Hid (Ret 14 #[.agg #[.int .u64 (y.1 : Nat), .int .u64 (y.2 : Nat)], .agg #[.int .u64 (x.1 : Nat), .int .u64 (x.2 : Nat)]] (.agg #[.int .u64 (z.1 : Nat), .int .u64 (z.2 : Nat)]))) :
    Calls Tryd.prog 13 #[.pointer (some ⟨p, 0, none⟩), .pointer (some ⟨p, 2, none⟩), .agg #[.int .u64 0, .int .u64 0], .pointer (some ⟨Bs, 0, none⟩)] W fun e w' => e = .returned (.tuple #[]) ∧ (w'.cell? ⟨p, 0, none⟩ = some (.int .u64 (x.1 : Nat)) ∧ w'.cell? ⟨p, 1, none⟩ = some (.int .u64 (x.2 : Nat)) ∧ w'.cell? ⟨p, 2, none⟩ = some (.int .u64 (z.1 : Nat)) ∧ w'.cell? ⟨p, 3, none⟩ = some (.int .u64 (z.2 : Nat))) ∧ Below p W w' ∧ ∀ k, k < W.heap.size → k ≠ p → w'.heap[k]? = W.heap[k]? := by
  go_enter Tryd.func13, Tryd.ntmps13
  go_wp2_with fail
  have A : Below W.heap.size W (W.alloc (Obj.cells #[.int .u64 0, .int .u64 0] 25)) := (Below.refl _ _).alloc (Nat.le_refl _) _
  have K : T2 W (W.alloc (Obj.cells #[.int .u64 0, .int .u64 0] 25)) p Bs B W.heap.size x y := ⟨keepc A cs, keepc A c0, keepc A c1, keepc A c2, keepc A c3, by simp [go_sem], by simp [go_sem], keepf A c0 (fz 0 (by decide)), keepf A c1 (fz 1 (by decide)), keepf A c2 (fz 2 (by decide)), keepf A c3 (fz 3 (by decide)), A.mono (Nat.le_of_lt hp), by simp; omega, by simp, fun j hj _ => A.block j hj⟩
  clear A
  have hq : ¬ p = W.heap.size := by omega
  have hq' : ¬ W.heap.size = p := by omega
  have hs1 : ¬ Bs = p := by omega
  have hs2 : ¬ p = Bs := by omega
  clear cs c0 c1 c2 c3 fz
  generalize W.alloc (Obj.cells #[.int .u64 0, .int .u64 0] 25) = w1 at *
  generalize W.heap.size = q at *
  have F := K.facts
  have Z := K.zs
  go_region_held3 (fun w => w.cell? ⟨Bs, 0, none⟩ = some (.pointer (some ⟨B, 0, none⟩)) ∧ w.cell? ⟨p, 0, none⟩ = some (.int .u64 (x.1 : Nat)) ∧ w.cell? ⟨p, 1, none⟩ = some (.int .u64 (x.2 : Nat)) ∧ w.cell? ⟨p, 2, none⟩ = some (.int .u64 (y.1 : Nat)) ∧ w.cell? ⟨p, 3, none⟩ = some (.int .u64 (y.2 : Nat)) ∧ w.cell? ⟨q, 0, none⟩ = some (.int .u64 0) ∧ w.cell? ⟨q, 1, none⟩ = some (.int .u64 0)) (first | (go_keep; done) | (obtain ⟨_, _, _, _, _, _, _⟩ := F; obtain ⟨_, _, _, _⟩ := Z; refine ⟨?_, ?_, ?_, ?_, ?_, ?_, ?_⟩ <;> simp [go_sem, *])) (first | (go_at_call 16; refine (HL.out _ (by first | exact K.b | exact K.drew.b)).mono ?_; rintro e w' ⟨rfl, hb'⟩; have K' := T2.below (w' := w') (by first | exact K | exact K.drew) hb'; clear F Z K hb'; have K := K'; clear K'; have F := K.facts; have Z := K.zs) | (go_at_call 15; refine (HM.out.go _).mono ?_; rintro e w' ⟨rfl, hb'⟩; have K' := T2.below (w' := w') (by first | exact K | exact K.drew) hb'; clear F Z K hb'; have K := K'; clear K'; have F := K.facts; have Z := K.zs) | (go_at_call 14; refine (HA.out.go _).mono ?_; rintro e w' ⟨rfl, hb'⟩; have K' := T2.below (w' := w') (by first | exact K | exact K.drew) hb'; clear F Z K hb'; have K := K'; clear K'; have F := K.facts; have Z := K.zs))
  all_goals
    have K5 := K.low hs1 hq'
    clear F Z K
    generalize (w'.setCell ⟨p, 0, none⟩ (.int .u64 (x.1 : Nat))).setCell ⟨p, 1, none⟩ (.int .u64 (x.2 : Nat)) = w5 at *
    have F5 := K5.facts
    have Z5 := K5.zs
    go_wp2_with fail
    go_region_with (first | (go_at_call 14; refine (HB.out.go _).mono ?_; rintro e w6 ⟨rfl, hb6⟩; have K' := T2.below (w' := w6) (by first | exact K5 | exact K5.drew) hb6; clear F5 Z5 K5 hb6; have K5 := K'; clear K'; have F5 := K5.facts; have Z5 := K5.zs))
    all_goals
      obtain ⟨cs, c0, c1, c2, c3, f0, f1, z0, z1, z2, z3, b5, hp5, hw5, kp5⟩ := K5
      go_end0
      exact ⟨rfl, ⟨by simp [go_sem, *], by simp [go_sem, *], by simp [go_sem, *], by simp [go_sem, *]⟩, (b5.setCell (Nat.le_refl _) _).setCell (Nat.le_refl _) _, fun j hj hn => (heap_set2 _ p j hn _ _ _ _).trans (kp5 j hj hn)⟩
set_option maxHeartbeats 2000000 in
theorem eachp2 (p Bs g cap : Nat) (W : World) (hg : g < W.heap.size) (hgp : g ≠ p) (cf0 : W.cell? ⟨g, 0, none⟩ = some (.int .u64 0)) (cf1 : W.cell? ⟨g, 1, none⟩ = some (.int .u64 0)) (Q : World → Prop)
    (HT : Hid (∀ w, Below W.heap.size W w → Calls Tryd.prog 13 #[.pointer (some ⟨p, 0, none⟩), .pointer (some ⟨p, 2, none⟩), .agg #[.int .u64 0, .int .u64 0], .pointer (some ⟨Bs, 0, none⟩)] w fun e w' => e = .returned (.tuple #[]) ∧ Q w' ∧ Below p w w' ∧ ∀ k, k < w.heap.size → k ≠ p → w'.heap[k]? = w.heap[k]?)) :
    Calls Tryd.prog 11 #[.slice (some ⟨p, 0, none⟩) 2 cap, .int .i64 0, .slice (some ⟨g, 0, none⟩) 1 1, .func (.func 13) #[] #[.pointer (some ⟨Bs, 0, none⟩)]] W fun e w' => e = .returned (.tuple #[]) ∧ Q w' ∧ Below p W w' := by
  have w0 : IntKind.i64.wrap 0 = 0 := by decide
  have w1 : IntKind.i64.wrap 1 = 1 := by decide
  go_enter Tryd.func11, Tryd.ntmps11
  go_wp2_with fail
  go_rounds 2
  go_wp2_with fail
  go_rounds 2
  go_wp2_with fail
  go_region_held3 (fun w => w.cell? ⟨g, 0, none⟩ = some (.int .u64 0) ∧ w.cell? ⟨g, 1, none⟩ = some (.int .u64 0)) (first | (exact G') | (go_keep)) (first | (go_at_call 13; refine (HT.out _ (by first | exact Below.refl _ _ | exact (Below.refl _ _).drew)).mono ?_; rintro e w' ⟨rfl, hQ, hb', hk'⟩; have G' : w'.cell? ⟨g, 0, none⟩ = some (.int .u64 0) ∧ w'.cell? ⟨g, 1, none⟩ = some (.int .u64 0) := ⟨(cell_heap (hk' g hg hgp)).trans cf0, (cell_heap (hk' g hg hgp)).trans cf1⟩))
  all_goals
    clear G'
    go_wp2
    rw [rounds_succ]
    go_wp2
    rw [rounds_succ]
    go_wp2
    go_end0
    exact ⟨rfl, hQ, (Below.refl _ _).drew.trans hb'⟩
/-- A space that lies at B. -/
structure Sp (w : World) (k n B : Nat) : Prop where
  c0 : w.cell? ⟨B, 0, none⟩ = some (.int .i64 (k : Int))
  c1 : ∃ a c, w.cell? ⟨B, 1, none⟩ = some (.slice a n c)
  c2 : ∃ a c ts, w.cell? ⟨B, 2, none⟩ = some (.slice a n c) ∧ ts.length = n ∧ ltE ts ∧ ERow w a ts
  c3 : ∃ a c bs, w.cell? ⟨B, 3, none⟩ = some (.slice a n c) ∧ bs.length = n ∧ ltE bs ∧ ERow w a bs
theorem Sp.below {w w' : World} {k n B : Nat} (h : Sp w k n B) (hb : Below w.heap.size w w') : Sp w' k n B := by
  obtain ⟨h0, ⟨a1, c1, h1⟩, ⟨a2, c2, ts, h2, h3, h4, h5⟩, a6, c6, bs, h6, h7, h8, h9⟩ := h
  exact ⟨keepc hb h0, ⟨a1, c1, keepc hb h1⟩, ⟨a2, c2, ts, keepc hb h2, h3, h4, h5.below hb⟩, a6, c6, bs, keepc hb h6, h7, h8, h9.below hb⟩
theorem ivv_all (l : Int) (ts : List (Nat × Nat)) : ltE (ts.map (ivv l)) := by
  intro e he
  obtain ⟨y, _, rfl⟩ := List.mem_map.1 he
  unfold ivv
  split
  · exact ⟨Tw.ivh_lt _ _, Tw.ivl_lt _ _⟩
  · exact ⟨Nat.two_pow_pos 64, Nat.two_pow_pos 64⟩
set_option maxHeartbeats 4000000 in
set_option maxRecDepth 100000 in
theorem plain_full (k n : Nat) (hk : k < 8) (hn : n ≤ 10) (h2 : n ≤ 2 ^ k) (W : World) :
    Calls Tryd.prog 18 #[.int .i64 (k : Int), .int .i64 (n : Int)] W fun e w' => ∃ p : Nat, e = .returned (.tuple #[.pointer (some ⟨p, 0, none⟩), .int .i64 0]) ∧ Sp w' k n p ∧ W.heap.size ≤ p ∧ Below W.heap.size W w' := by
  have HL : Hid (Ret 26 #[.int .i64 (k : Int)] (.bool true)) := lin_level (k : Int) (by omega)
  obtain ⟨i0, hi, hz0, hz1, hz2⟩ := info_elem
  have HN : Hid (Tryd.prog.info? 25 = some i0 ∧ i0.zero = some (.agg #[.int .u64 0, .int .u64 0]) ∧ i0.size = 2 ∧ i0.bytes = 16) := ⟨hi, hz0, hz1, hz2⟩
  clear hi hz0 hz1 hz2
  have hw : IntKind.i64.wrap (2 ^ k) = ((2 ^ k : Nat) : Int) := by
    have h1 : 2 ^ k < 2 ^ 8 := Nat.pow_lt_pow_right (by decide) hk
    rw [IntKind.wrap_i64, show (2 : Int) ^ k = ((2 ^ k : Nat) : Int) by simp]
    generalize 2 ^ k = p at *
    omega
  have h2' : ¬ (2 : Int) ^ k < (n : Int) := by
    rw [show (2 : Int) ^ k = ((2 ^ k : Nat) : Int) by simp]
    omega
  clear h2
  go_enter Tryd.func18, Tryd.ntmps18
  go_wp2_with (first | (go_at_call 26; refine (HL.out.go _).mono ?_; rintro e w1 ⟨rfl, hb1⟩) | (at_make; refine wpList_make_full _ rfl _ _ 22 rfl 0 25 i0 (.agg #[.int .u64 0, .int .u64 0]) 2 Tryd.underlying22 HN.out.1 HN.out.2.1 HN.out.2.2.1 .i64 .i64 _ _ n rfl rfl rfl rfl (by rw [HN.out.2.2.2]; omega) (by simp only [maxLen]; omega) (Nat.zero_le _) ?_; intro w2 own2 hgr2))
  have hg : W.heap.size ≤ w1.heap.size := hb1.size
  have D : Hid (Below W.heap.size W w2) := hb1.grown hgr2 hb1.size (fun k hk => by cases hk)
  obtain ⟨f0, R0⟩ := own_rowIs own2 (rfl : n * 2 = n * 2)
  have HM : Hid (∀ w : World, ERow w (some ⟨w1.heap.size, 0, none⟩) (bitsE n) → Calls Tryd.prog 28 #[.int .i64 (k : Int), .slice (some ⟨w1.heap.size, 0, none⟩) n n] w fun e w' => ∃ aT aB cT cB ts bs, e = .returned (.pointer (some ⟨w.heap.size, 0, none⟩)) ∧ (ts.length = n ∧ bs.length = n ∧ ltE ts ∧ ltE bs) ∧ Mk w w' k (.slice (some ⟨w1.heap.size, 0, none⟩) n n) (.slice aT ts.length cT) (.slice aB ts.length cB) ts.length ts.length (flat ts) (flat bs)) := fun w h => by
    have := made_any (k : Int) (some ⟨w1.heap.size, 0, none⟩) n (bitsE n) w h (by rw [bitsE_len]; exact hn) (bitsE_lt n hn) (ivv k) (fun y h1 h2 => inv_lin k y h1 h2)
    rw [bitsE_len] at this
    refine this.mono ?_
    rintro e w' ⟨aT, aB, cT, cB, ts, bs, rfl, e1, e2, e3, e4, _, h⟩
    exact ⟨aT, aB, cT, cB, ts, bs, rfl, ⟨e1, e2, e3, by rw [e4]; exact ivv_all k ts⟩, h⟩
  clear own2 hgr2 hb1 HL HN hw
  generalize w1.heap.size = g at *
  go_loopw [28] (fun u wr => ∃ (j : Nat) (f : Nat → Value), j ≤ n ∧ u = .int .i64 j ∧ wr.rowIs g 25 (n * 2) f ∧ Hid (∀ p, p < j * 2 → f p = bcell p) ∧ Below W.heap.size W wr) (fun u _ => n - (intOf u).toNat)
  case atStart => exact ⟨0, f0, Nat.zero_le _, rfl, R0, (fun p hp => by omega), D.out⟩
  case round =>
    obtain ⟨j, f, hj, rfl, hR, HF, hD⟩ := hrel
    clear R0 D
    have HR : Hid (wr.rowIs g 25 (n * 2) f) := hR
    have HD : Hid (Below W.heap.size W wr) := hD
    have hgs : g < wr.heap.size := hR.lt
    clear hR hD
    by_cases hlt : j < n
    · have HB : Hid (Ret 27 #[.int .i64 (j : Int)] (.agg #[.int .u64 0, .int .u64 ((2 ^ j : Nat) : Int)])) := lbit j (by omega)
      go_wp2_with (go_at_call 27; refine (HB.out.go _).mono ?_; rintro e w3 ⟨rfl, hb3⟩; have R3 : Hid (w3.rowIs g 25 (n * 2) f) := (HR.out.of_block (hb3.block g hgs)); have c1 := R3.out.cell (i := j * 2) (by omega); have c0 := R3.out.cell (i := j * 2 + 1) (by omega); have z1 := R3.out.frozen (j * 2); have z0 := R3.out.frozen (j * 2 + 1))
      refine ⟨⟨j + 1, _, hlt, by simp, (R3.out.set (j * 2) _).set (j * 2 + 1) _, fun p hp => ?_, ((HD.out.trans (hb3.mono HD.out.size)).setCell hg _).setCell hg _⟩, by simp [intOf]; omega⟩
      have hF := HF.out p
      unfold bcell at hF ⊢
      by_cases e1 : p = j * 2 + 1
      · rw [if_pos e1, if_neg (by omega), show p / 2 = j by omega]; simp
      · rw [if_neg e1]
        by_cases e2 : p = j * 2
        · rw [if_pos e2, if_pos (by omega)]
        · rw [if_neg e2]; exact hF (by omega)
    · obtain rfl : j = n := by omega
      have HE : Hid (ERow wr (some ⟨g, 0, none⟩) (bitsE j)) := row_bits HR.out HF.out
      go_wp2_with (go_at_call 28; refine (HM.out _ HE.out).mono ?_; rintro e w3 ⟨aT, aB, cT, cB, ts, bs, rfl, hls, hK⟩)
      refine bodyPost_ret (v := .tuple #[.pointer (some ⟨wr.heap.size, 0, none⟩), .int .i64 0]) (by simp [results, Tryd.results18, go_sem]) rfl ?_
      refine ⟨_, rfl, ⟨hK.c0, ⟨_, _, hK.c1⟩, ?_, ?_⟩, HD.out.size, HD.out.trans (hK.d.mono HD.out.size)⟩
      · refine ⟨aT, cT, ts, ?_, hls.1, hls.2.2.1, own_erow hK.oT⟩
        have := hK.c2
        rw [hls.1] at this
        exact this
      · have hB := hK.oB
        rw [hls.1, ← hls.2.1] at hB
        refine ⟨aB, cB, bs, ?_, hls.2.1, hls.2.2.2, own_erow hB⟩
        have := hK.c3
        rw [hls.1] at this
        exact this
end Go.Proofs.YtcoocgdldoolaaaDoor
