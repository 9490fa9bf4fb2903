/- The contract of cube.Weights over the seat's translation. -/
import Derived.Test.YtcejppibcemdeaaRgA
import Derived.Test.YtcejppibcemdeaaPCbF
import Derived.Test.YtcejppibcemdeaaPeel
import Derived.Deep.OwnRows
import Derived.Maps.AppendAt
namespace Go.Proofs.Ytcejppibcemdeaa
open Go.RowKit
open Cb
open Rg
open Tw (pm)

/-- A store into a row of one's own. -/
theorem own_setR {w : World} {base size g n cap : Nat} {T : TypeId} {xs : List Value} (h : w.ownsRow base T size (.slice (some ⟨g, 0, none⟩) n cap) n xs) (i : Nat) (u : Value) :
    (w.setCell ⟨g, i, none⟩ u).ownsRow base T size (.slice (some ⟨g, 0, none⟩) n cap) n (xs.set i u) := by
  obtain ⟨h1, h2⟩ := h
  refine ⟨by rw [List.length_set]; exact h1, ?_⟩
  rcases h2 with ⟨h3, _⟩ | ⟨g', cap', cur, e, hb, hg, hn, hm, hs, ht⟩
  · injection h3 with h4; cases h4
  · injection e with e1 e2 e3
    obtain rfl : g = g' := by injection e1 with e4; injection e4
    subst e3
    refine .inr ⟨g, cap, cur.setIfInBounds i u, rfl, hb, ?_, hn, hm, by simpa using hs, ?_⟩
    · simp [World.setCell, Array.getElem?_modify, hg]
    · rw [Array.toList_setIfInBounds, List.take_set, ht]
theorem own_cellR {w : World} {base size g n cap : Nat} {T : TypeId} {xs : List Value} (h : w.ownsRow base T size (.slice (some ⟨g, 0, none⟩) n cap) n xs) (i : Nat) (hi : i < n * size) :
    w.cell? ⟨g, i, none⟩ = xs[i]? ∧ w.frozen? ⟨g, i, none⟩ = false := by
  obtain ⟨h1, h2⟩ := h
  rcases h2 with ⟨h3, _⟩ | ⟨g', cap', cur, e, hb, hg, hn, hm, hs, ht⟩
  · injection h3 with h4; cases h4
  · injection e with e1 e2 e3
    obtain rfl : g = g' := by injection e1 with e4; injection e4
    subst ht
    have hlt : i < cur.size := by
      rw [hs]
      exact Nat.lt_of_lt_of_le hi (Nat.mul_le_mul_right _ hn)
    refine ⟨?_, by simp [World.frozen?, hg]⟩
    rw [List.getElem?_take_of_lt hi]
    simp [World.cell?, hg, hlt]
theorem flat_put (es : List (Nat × Nat)) (r : Nat × Nat) : ∀ m, m < es.length → ((flat es).set (m * 2) (.int .u64 (r.1 : Nat))).set (m * 2 + 1) (.int .u64 (r.2 : Nat)) = flat (es.set m r) := by
  induction es with
  | nil => intro m hm; simp at hm
  | cons x es ih =>
    intro m hm
    have ef : ∀ (e : Nat × Nat) l, flat (e :: l) = .int .u64 (e.1 : Int) :: .int .u64 (e.2 : Int) :: flat l := fun e l => by simp [flat]
    cases m with
    | zero => simp [ef]
    | succ m =>
      have := ih m (by simpa using hm)
      rw [List.set_cons_succ, ef, ef, ← this, show (m + 1) * 2 = m * 2 + 1 + 1 by omega, show m * 2 + 1 + 1 + 1 = (m * 2 + 1) + 1 + 1 by omega]
      simp
theorem flat_end (es : List (Nat × Nat)) (r : Nat × Nat) : flat (es ++ [r]) = flat es ++ [.int .u64 (r.1 : Nat), .int .u64 (r.2 : Nat)] := by simp [flat]
/-- make([]T, 1, n). -/
theorem wpList_make_first {P : Program} (w : World) {ops : Array Oper} {rest : List Oper} {o : Oper} {a : Act} {Q : Exit → Act → World → Prop}
    (hg : o.guard = none) (l c : Operand) (t : TypeId) (hop : o.op = Op.makeSlice t l c)
    (base : Nat) (e : TypeId) (i : TypeInfo) (z : Value) (size : Nat) (h1 : P.underlying t = some (.slice e)) (h2 : P.info? e = some i) (h3 : i.zero = some z) (h4 : i.size = size)
    (kl kc : IntKind) (C : Int) (n : Nat) (hl : a.eval l = .int kl 1) (hc : a.eval c = .int kc C) (hC : C = (n : Int)) (h0 : 1 ≤ n) (b2 : i.bytes * n ≤ 281474976710656) (b3 : n ≤ maxLen) (b4 : base ≤ w.heap.size)
    (hK : ∀ w' xs, w'.ownsRow base e size (.slice (some ⟨w.heap.size, 0, none⟩) 1 n) 1 xs → w.grownBy w' none → wpList P ops Q rest (a.put o.dst (.slice (some ⟨w.heap.size, 0, none⟩) 1 n)) w') :
    wpList P ops Q (o :: rest) a w := by
  refine wpList_plain hg fun K hK' => ?_
  subst hC h4
  have h63' : (n : Int) ≤ 9223372036854775807 := by
    have h := b3
    simp [maxLen] at h
    omega
  have hb' : (i.bytes : Int) * (n : Int) ≤ 281474976710656 := by
    have h : ((i.bytes * n : Nat) : Int) ≤ 281474976710656 := by omega
    rwa [Int.natCast_mul] at h
  have hr := run_make (P := P) w t e i z h1 h2 h3 kl kc 1 n (by decide) (by omega) hb' h63'
  simp only [Int.toNat_natCast] at hr
  have hr2 : (Instr.makeSlice t (.int kl 1) (.int kc (n : Int))).run P w = .ok (.slice (some ⟨w.heap.size, 0, none⟩) 1 n) (w.alloc (.cells (madeCells z.cells (n * i.size)) e)) := hr
  unfold Oper.wp
  simp [execOp, hop, hl, hc, hr2, Result.andThen]
  refine hK' _ _ (hK _ ((madeCells z.cells (n * i.size)).toList.take (1 * i.size)) ⟨?_, .inr ⟨w.heap.size, n, madeCells z.cells (n * i.size), rfl, b4, heap_alloc_new w _, h0, b3, size_madeCells _ _, rfl⟩⟩ (World.grownBy_alloc w _ none))
  rw [List.length_take, Array.length_toList, size_madeCells]
  have : i.size ≤ n * i.size := Nat.le_mul_of_pos_left _ h0
  omega
theorem two_vals {xs : List Value} (h : xs.length = 1 * 2) : ∃ a b, xs = [a, b] := by
  match xs, h with
  | [a, b], _ => exact ⟨a, b, rfl⟩
theorem El.keepR {w : World} {b c h l : Nat} (e : El w c h l) (hn : b ≠ c) (o o' : Nat) (u v : Value) : El ((w.setCell ⟨b, o, none⟩ u).setCell ⟨b, o', none⟩ v) c h l := by
  obtain ⟨h1, h2⟩ := e
  have hn' : c ≠ b := fun h => hn h.symm
  exact ⟨by simp [go_sem, *], by simp [go_sem, *]⟩
theorem El.growR {w w' : World} {q h l : Nat} {ob : Option Nat} (hg : w.grownBy w' ob) (e : El w q h l) (hne : ob ≠ some q) : El w' q h l := by
  have hb := hg.block q e.lt (fun h => hne h.symm)
  exact ⟨by rw [← e.hi]; simp [World.cell?, hb], by rw [← e.lo]; simp [World.cell?, hb]⟩
theorem Ew.roomR (w : World) (T : TypeId) : Ew (w.alloc (Obj.cells #[.int .u64 0, .int .u64 0] T)) w.heap.size 0 0 := ⟨⟨by simp [go_sem], by simp [go_sem]⟩, by simp [go_sem], by simp [go_sem]⟩
theorem El.newR (w : World) (v : Nat × Nat) (T : TypeId) : El (w.alloc (Obj.cells #[.int .u64 (v.1 : Int), .int .u64 (v.2 : Int)] T)) w.heap.size v.1 v.2 := ⟨by simp [go_sem], by simp [go_sem]⟩
/-- The row that grows, and the element of the point. -/
structure Wo (W w : World) (s : Value) (N : Nat) (L : List (Nat × Nat)) (qx : Nat) (x : Nat × Nat) : Prop where
  own : w.ownsRow W.heap.size 24 2 s N (flat L)
  x : El w qx x.1 x.2
  n : s.ownBlock ≠ some qx
  d : Below W.heap.size W w
theorem Wo.below {W w w' : World} {s : Value} {N : Nat} {L : List (Nat × Nat)} {qx : Nat} {x : Nat × Nat} (h : Wo W w s N L qx x) (hb : Below w.heap.size w w') : Wo W w' s N L qx x := ⟨own_below h.own hb, h.x.below hb, h.n, h.d.trans (hb.mono h.d.size)⟩
theorem Wo.drew {W w : World} {s : Value} {N : Nat} {L : List (Nat × Nat)} {qx : Nat} {x : Nat × Nat} (h : Wo W w s N L qx x) : Wo W w.drew s N L qx x := h.below (Below.refl _ _).drew
theorem Wo.alloc {W w : World} {s : Value} {N : Nat} {L : List (Nat × Nat)} {qx : Nat} {x : Nat × Nat} (h : Wo W w s N L qx x) (o : Obj) : Wo W (w.alloc o) s N L qx x := h.below ((Below.refl _ _).alloc (Nat.le_refl _) o)
/-- The row, the element of the point, and the product. -/
structure Wp (W w : World) (g cp N : Nat) (L : List (Nat × Nat)) (qx qz : Nat) (x z : Nat × Nat) : Prop where
  o : Wo W w (.slice (some ⟨g, 0, none⟩) N cp) N L qx x
  z : El w qz z.1 z.2
  n : g ≠ qz
theorem Wp.below {W w w' : World} {g cp N : Nat} {L : List (Nat × Nat)} {qx qz : Nat} {x z : Nat × Nat} (h : Wp W w g cp N L qx qz x z) (hb : Below w.heap.size w w') : Wp W w' g cp N L qx qz x z := ⟨h.o.below hb, h.z.below hb, h.n⟩
theorem Wp.drew {W w : World} {g cp N : Nat} {L : List (Nat × Nat)} {qx qz : Nat} {x z : Nat × Nat} (h : Wp W w g cp N L qx qz x z) : Wp W w.drew g cp N L qx qz x z := h.below (Below.refl _ _).drew
theorem Wp.lt {W w : World} {g cp N : Nat} {L : List (Nat × Nat)} {qx qz : Nat} {x z : Nat × Nat} (h : Wp W w g cp N L qx qz x z) : W.heap.size ≤ g := (h.o.own.lt g rfl).1
theorem Wp.put {W w : World} {g cp N : Nat} {L : List (Nat × Nat)} {qx qz : Nat} {x z : Nat × Nat} (h : Wp W w g cp N L qx qz x z) (i : Nat) (hi : i < L.length) (r : Nat × Nat) :
    Wp W ((w.setCell ⟨g, i * 2, none⟩ (.int .u64 (r.1 : Int))).setCell ⟨g, i * 2 + 1, none⟩ (.int .u64 (r.2 : Int))) g cp N (L.set i r) qx qz x z := by
  have hx : g ≠ qx := fun e => h.o.n (by rw [e]; rfl)
  refine ⟨⟨?_, h.o.x.keepR hx _ _ _ _, h.o.n, (h.o.d.setCell h.lt _).setCell h.lt _⟩, h.z.keepR h.n _ _ _ _, h.n⟩
  have := own_setR (own_setR h.o.own (i * 2) (.int .u64 (r.1 : Nat))) (i * 2 + 1) (.int .u64 (r.2 : Nat))
  rw [flat_put L r i hi] at this
  exact this
/-- The cells of the element i. -/
theorem Wp.facts {W w : World} {g cp N : Nat} {L : List (Nat × Nat)} {qx qz : Nat} {x z : Nat × Nat} (h : Wp W w g cp N L qx qz x z) (i : Nat) (hi : i < N) (hl : L.length = N) :
    w.cell? ⟨g, i * 2, none⟩ = some (.int .u64 ((el L i).1 : Int)) ∧ w.cell? ⟨g, i * 2 + 1, none⟩ = some (.int .u64 ((el L i).2 : Int)) ∧ w.cell? ⟨qz, 0, none⟩ = some (.int .u64 (z.1 : Int)) ∧ w.cell? ⟨qz, 1, none⟩ = some (.int .u64 (z.2 : Int)) := by
  have h1 := (own_cellR h.o.own (i * 2) (by omega)).1
  have h0 := (own_cellR h.o.own (i * 2 + 1) (by omega)).1
  rw [(flat_at L i (by omega)).1] at h1
  rw [(flat_at L i (by omega)).2] at h0
  exact ⟨h1, h0, h.z.hi, h.z.lo⟩
/-- The entries of the row, i of the round j done. -/
def Wji (p : List (Nat × Nat)) (N j i x : Nat) : Nat × Nat := if x < i then wt (p.take (j + 1)) x else if x < N then wt (p.take j) x else wt (p.take (j + 1)) x
theorem el_set {M : List (Nat × Nat)} {i x : Nat} (hi : i < M.length) (r : Nat × Nat) : el (M.set i r) x = if x = i then r else el M x := by
  unfold el
  by_cases h : x = i
  · subst h
    simp [List.getD, hi]
  · rw [if_neg h]
    simp [List.getD, Ne.symm h]
theorem el_end {M : List (Nat × Nat)} {x n : Nat} (hn : M.length = n) (r : Nat × Nat) : el (M ++ [r]) x = if x = n then r else el M x := by
  unfold el
  subst hn
  by_cases h : x = M.length
  · subst h
    simp [List.getD]
  · rw [if_neg h]
    by_cases h2 : x < M.length
    · simp [List.getD, List.getElem?_append_left h2]
    · have h3 : (M ++ [r]).length ≤ x := by simp; omega
      have h4 : M.length ≤ x := by omega
      simp only [List.getD, List.getElem?_eq_none h3, List.getElem?_eq_none h4]
set_option maxHeartbeats 20000000 in
set_option maxRecDepth 100000 in
theorem cwts (m : Nat) (hm : m < 8) (a : Option Addr) (cap q n : Nat) (p : List (Nat × Nat)) (hp : ltE p) (hl : p.length = q) (hq : q ≤ 12) (hn : 2 ^ q = n) (op : ofT m p) (W : World) (hr : ERow W a p) :
    Calls Try.prog 53 #[.int .i64 (m : Int), .slice a q cap] W fun e w' => ∃ g cp, e = .returned (.slice (some ⟨g, 0, none⟩) n cp) ∧ w'.ownsRow W.heap.size 24 2 (.slice (some ⟨g, 0, none⟩) n cp) n (flat (wts p n)) ∧ Below W.heap.size W w' := by
  have hn1 : n ≤ 4096 := by rw [← hn]; exact Nat.le_trans (Nat.pow_le_pow_right (by decide) hq) (by decide)
  have hn0 : 1 ≤ n := by rw [← hn]; exact Nat.two_pow_pos _
  have HLV := hidT (clevel_yes (m : Int) (by omega))
  have HAL : Hid (∀ w, Below W.heap.size W w → Calls Try.prog 64 #[.int .i64 (m : Int), .slice a q cap] w fun e w' => e = .returned (.bool true) ∧ Below w.heap.size w w') := fun w hb => by
    have := call_any (m : Int) a cap p hp w (hr.below hb) (by omega)
    rw [all_of.2 op, hl] at this
    exact this
  have H1 := hidT one_any
  have hsh : IntKind.i64.wrap ((2 : Int) ^ q) = (n : Int) := by
    rw [IntKind.wrap_i64, show (2 : Int) ^ q = ((2 ^ q : Nat) : Int) by simp, hn]; omega
  have hq16 : ¬ 16 < (q : Int) := by omega
  have hqn : ¬ (q : Int) < 0 := by omega
  obtain ⟨i0, hi0, hz0, hz1, hz2⟩ := info_elem
  have HI : Hid (Try.prog.info? 24 = some i0 ∧ i0.zero = some (.agg #[.int .u64 0, .int .u64 0]) ∧ i0.size = 2 ∧ i0.bytes = 16) := ⟨hi0, hz0, hz1, hz2⟩
  have HP : Hid (ltE p ∧ p.length = q ∧ ofT m p ∧ ERow W a p ∧ 2 ^ q = n) := ⟨hp, hl, op, hr, hn⟩
  clear hi0 hz0 hz1 hz2 hp hl op hr hn
  go_enter Try.func53, Try.ntmps53
  go_wp2_with (first
    | (go_at_call 63; refine (HLV.out.go _).mono ?_; rintro e w0 ⟨rfl, hb0⟩; have D0 : Hid (Below W.heap.size W w0) := hb0; clear hb0)
    | (go_at_call 64; refine (HAL.out _ D0.out).mono ?_; rintro e w1 ⟨rfl, hb1⟩; have D1 : Hid (Below W.heap.size W w1) := D0.out.trans (hb1.mono D0.out.size); clear hb1 D0)
    | (at_make; refine wpList_make_first _ rfl _ _ 25 rfl W.heap.size 24 i0 (.agg #[.int .u64 0, .int .u64 0]) 2 Try.underlying25 HI.out.1 HI.out.2.1 HI.out.2.2.1 .i64 .i64 _ n rfl rfl (by first | rfl | exact hsh) hn0 (by rw [HI.out.2.2.2]; omega) (by simp only [maxLen]; omega) D1.out.size ?_; intro w2 xs2 own2 hgr2; obtain ⟨y0, y1, rfl⟩ := two_vals own2.1; have D2 : Hid (w2.ownsRow W.heap.size 24 2 (.slice (some ⟨w1.heap.size, 0, none⟩) 1 n) 1 [y0, y1] ∧ Below W.heap.size W w2) := ⟨own2, D1.out.grown hgr2 D1.out.size (fun k hk => by cases hk)⟩; have hg1 : W.heap.size ≤ w1.heap.size := D1.out.size; clear own2 hgr2 D1)
    | (go_at_call 35; refine (H1.out _).mono ?_; rintro e w3 ⟨rfl, hb3⟩; have D3 : Hid (w3.ownsRow W.heap.size 24 2 (.slice (some ⟨w1.heap.size, 0, none⟩) 1 n) 1 [y0, y1] ∧ Below W.heap.size W w3) := ⟨own_below D2.out.1 hb3, D2.out.2.trans (hb3.mono D2.out.2.size)⟩; clear hb3 D2; obtain ⟨r0, f0⟩ := own_cellR D3.out.1 0 (by decide); obtain ⟨r1, f1⟩ := own_cellR D3.out.1 1 (by decide); simp only [List.getElem?_cons_zero, List.getElem?_cons_succ] at r0 r1))
  have K0 : Hid (((w3.setCell ⟨w1.heap.size, 0, none⟩ (.int .u64 0)).setCell ⟨w1.heap.size, 1, none⟩ (.int .u64 1)).ownsRow W.heap.size 24 2 (.slice (some ⟨w1.heap.size, 0, none⟩) 1 n) 1 (flat [(0, 1)]) ∧ Below W.heap.size W ((w3.setCell ⟨w1.heap.size, 0, none⟩ (.int .u64 0)).setCell ⟨w1.heap.size, 1, none⟩ (.int .u64 1))) :=
    ⟨own_setR (own_setR D3.out.1 0 _) 1 _, (D3.out.2.setCell hg1 _).setCell hg1 _⟩
  clear D3 hg1 HLV HAL H1 r0 r1 f0 f1
  go_loopw [5, 33] (fun s u wr => ∃ (j N : Nat) (L : List (Nat × Nat)), j ≤ q ∧ u = .int .i64 j ∧ Hid (N = 2 ^ j ∧ L.length = N ∧ ∀ x, x < N → el L x = wt (p.take j) x) ∧ Hid (wr.ownsRow W.heap.size 24 2 s N (flat L) ∧ Below W.heap.size W wr)) (fun _ u _ => q - (intOf u).toNat)
  case atStart =>
    refine ⟨0, 1, [(0, 1)], Nat.zero_le _, rfl, ⟨rfl, rfl, fun x hx => ?_⟩, K0⟩
    obtain rfl : x = 0 := by omega
    rfl
  case round =>
    obtain ⟨j, N, L, hj, rfl, HL, HO⟩ := hrel
    clear K0
    obtain ⟨g0, cp0, hu5⟩ : ∃ g cp, u5 = .slice (some ⟨g, 0, none⟩) N cp := by
      have hN0 : 0 < N := by rw [HL.out.1]; exact Nat.two_pow_pos _
      rcases HO.out.1.2 with ⟨_, h0⟩ | ⟨g, cp, _, e, _⟩
      · omega
      · exact ⟨g, cp, e⟩
    subst hu5
    by_cases hlt : j < q
    · have hN0 : 0 < N := by rw [HL.out.1]; exact Nat.two_pow_pos _
      have hN : N ≤ 4096 := by rw [HL.out.1]; exact Nat.le_trans (Nat.pow_le_pow_right (by decide) (show j ≤ 12 by omega)) (by decide)
      obtain ⟨b0, off, rfl, hb0, c1, c0⟩ := HP.out.2.2.2.1.cells j (by rw [HP.out.2.1]; exact hlt)
      have C1 := keepc HO.out.2 c1
      have C0 := keepc HO.out.2 c0
      have hx : lt2 (p.getD j (0, 0)) ∧ ofE m (p.getD j (0, 0)) := ⟨HP.out.1.at j, HP.out.2.2.1.el hm j⟩
      have HX : Hid (p.take (j + 1) = p.take j ++ [p.getD j (0, 0)]) := take_sn p j (by rw [HP.out.2.1]; exact hlt)
      have HTL : Hid ((p.take j).length = j) := by show _ = _; rw [List.length_take, HP.out.2.1]; omega
      have HOT : Hid (ofT m (p.take j)) := fun e he => HP.out.2.2.1 e (List.mem_of_mem_take he)
      have j1 : (j : Int) < (q : Int) := by omega
      have j0 : (0 : Int) ≤ (j : Int) := by omega
      clear c1 c0 hb0
      generalize p.getD j (0, 0) = x at *
      have K1 : Hid (Wo W (wr.alloc (Obj.cells #[.int .u64 (x.1 : Int), .int .u64 (x.2 : Int)] 24)) (.slice (some ⟨g0, 0, none⟩) N cp0) N L wr.heap.size x) := by
        have hb := (Below.refl wr.heap.size wr).alloc (Nat.le_refl _) (Obj.cells #[.int .u64 (x.1 : Int), .int .u64 (x.2 : Int)] 24)
        refine ⟨own_below HO.out.1 hb, ⟨by simp [go_sem], by simp [go_sem]⟩, fun e => ?_, HO.out.2.trans (hb.mono HO.out.2.size)⟩
        have := (HO.out.1.lt g0 rfl).2
        simp [Value.ownBlock] at e
        omega
      clear HO
      go_wp2_with fail
      clear C1 C0
      generalize hwx : (wr.alloc (Obj.cells #[.int .u64 (x.1 : Int), .int .u64 (x.2 : Int)] 24)) = wx at *
      generalize wr.heap.size = qx at *
      clear hwx
      go_loopw [5, 39] (fun s u wr => ∃ (i : Nat) (M : List (Nat × Nat)), i ≤ N ∧ u = .int .i64 i ∧ Hid (M.length = N + i ∧ ∀ x, x < N + i → el M x = Wji p N j i x) ∧ Hid (Wo W wr s (N + i) M qx x)) (fun _ u _ => N - (intOf u).toNat)
      case atStart =>
        refine ⟨0, L, Nat.zero_le _, rfl, ⟨HL.out.2.1, fun x hx => ?_⟩, K1⟩
        unfold Wji
        rw [if_neg (by omega), if_pos (show x < N from hx)]
        exact HL.out.2.2 x hx
      case round =>
        obtain ⟨i, M, hi, rfl, HM, HJ⟩ := hrel
        clear K1
        obtain ⟨g, cp, hu5⟩ : ∃ g cp, u5 = .slice (some ⟨g, 0, none⟩) (N + i) cp := by
          rcases HJ.out.own.2 with ⟨_, h0⟩ | ⟨g, cp, _, e, _⟩
          · omega
          · exact ⟨g, cp, e⟩
        subst hu5
        by_cases hiN : i < N
        · obtain ⟨c, hc⟩ : ∃ c, c = el M i := ⟨_, rfl⟩
          have HC : Hid (c = wt (p.take j) i ∧ c = el M i) := by
            refine ⟨?_, hc⟩
            rw [hc, HM.out.2 i (by omega)]
            unfold Wji
            rw [if_neg (by omega), if_pos hiN]
          have hcl : lt2 c ∧ ofE m c := by rw [HC.out.1]; exact ⟨lt_wt _ _, of_wt hm HOT.out _⟩
          have HZ : Hid (pm c x = wt (p.take (j + 1)) (N + i) ∧ xa c (pm c x) = wt (p.take (j + 1)) i) := by
            have hi2 : i < 2 ^ (p.take j).length := by rw [HTL.out, ← HL.out.1]; exact hiN
            have e1 := wt_snoc (p.take j) x hx.1 (x := i) 1 hi2
            have e0 := wt_snoc (p.take j) x hx.1 (x := i) 0 hi2
            rw [HTL.out, ← HL.out.1, ← HC.out.1] at e1 e0
            rw [Nat.mul_one, Nat.add_comm] at e1
            rw [Nat.mul_zero, Nat.add_zero] at e0
            refine ⟨?_, ?_⟩
            · rw [HX.out, e1]; rfl
            · rw [HX.out, e0]
              show _ = pm c (xa (0, 1) x)
              rw [pm_xa, pm_one hcl.1]
          have MU : Hid (Ret 57 #[.int .i64 (m : Int), .agg #[.int .u64 (c.1 : Int), .int .u64 (c.2 : Int)], .agg #[.int .u64 (x.1 : Int), .int .u64 (x.2 : Int)]] (.agg #[.int .u64 ((pm c x).1 : Int), .int .u64 ((pm c x).2 : Int)])) := by
            have := mul_any (m : Int) c x hcl.1.1 hcl.1.2 hx.1.1 hx.1.2
            rw [mulv_of hcl.2 hx.2] at this
            exact this
          have AD : Hid (Ret 56 #[.agg #[.int .u64 (c.1 : Int), .int .u64 (c.2 : Int)], .agg #[.int .u64 ((pm c x).1 : Int), .int .u64 ((pm c x).2 : Int)]] (.agg #[.int .u64 ((xa c (pm c x)).1 : Int), .int .u64 ((xa c (pm c x)).2 : Int)])) := fun w => add_any _ _ _ _ hcl.1.1 hcl.1.2 (lt_pm _ _).1 (lt_pm _ _).2 w
          have i1 : (i : Int) < ((N + i : Nat) : Int) := by omega
          have i1' : (i : Int) < (N : Int) + (i : Int) := by omega
          have i2 : (i : Int) < (N : Int) := by omega
          have i3 : (0 : Int) ≤ (i : Int) := by omega
          have hgl : g < wr.heap.size := (HJ.out.own.lt g rfl).2
          clear hc hcl
          generalize xa c (pm c x) = y at *
          generalize pm c x = z at *
          have R1 : wr.cell? ⟨g, i * 2, none⟩ = some (.int .u64 (c.1 : Int)) := by
            have h := (own_cellR HJ.out.own (i * 2) (by omega)).1
            rw [(flat_at M i (by rw [HM.out.1]; omega)).1] at h
            rw [HC.out.2]; exact h
          have R0 : wr.cell? ⟨g, i * 2 + 1, none⟩ = some (.int .u64 (c.2 : Int)) := by
            have h := (own_cellR HJ.out.own (i * 2 + 1) (by omega)).1
            rw [(flat_at M i (by rw [HM.out.1]; omega)).2] at h
            rw [HC.out.2]; exact h
          have X1 := HJ.out.x.hi
          have X0 := HJ.out.x.lo
          go_upto_region 11 with fail
          go_cut [9] (fun p9 wx => ∃ q9 : Nat, p9 = .pointer (some ⟨q9, 0, none⟩) ∧ Hid (Wp W wx g cp (N + i) M qx q9 x z))
          case first =>
            have K : Hid (Below wr.heap.size wr wr) := Below.refl _ _
            go_region_held3 (fun w => w.cell? ⟨g, i * 2, none⟩ = some (.int .u64 (c.1 : Int)) ∧ w.cell? ⟨g, i * 2 + 1, none⟩ = some (.int .u64 (c.2 : Int)) ∧ w.cell? ⟨qx, 0, none⟩ = some (.int .u64 (x.1 : Int)) ∧ w.cell? ⟨qx, 1, none⟩ = some (.int .u64 (x.2 : Int))) (first | (go_keep; done) | exact ⟨keepc ((K.out.setCell (Nat.le_refl _) _).setCell (Nat.le_refl _) _) R1, keepc ((K.out.setCell (Nat.le_refl _) _).setCell (Nat.le_refl _) _) R0, keepc ((K.out.setCell (Nat.le_refl _) _).setCell (Nat.le_refl _) _) X1, keepc ((K.out.setCell (Nat.le_refl _) _).setCell (Nat.le_refl _) _) X0⟩) (first | (go_at_call 57; refine (MU.out.go _).mono ?_; rintro e w' ⟨rfl, hb'⟩; have K' : Hid (Below wr.heap.size wr w') := (by first | exact hb' | exact (Below.refl _ _).drew.trans (hb'.mono (by simp)) | exact ((Below.refl _ _).alloc (Nat.le_refl _) _).trans (hb'.mono (by simp)) | exact ((Below.refl _ _).drew.alloc (by simp) _).trans (hb'.mono (by simp)) | exact ((Below.refl _ _).alloc (Nat.le_refl _) _).drew.trans (hb'.mono (by simp))); (first | (have B : Ew w' wr.heap.size 0 0 := (by first | exact Ew.below (Ew.roomR wr _) hb' | exact Ew.below (Ew.roomR wr.drew _) hb' | exact Ew.below (Ew.roomR wr _).drew hb'); have B' := B; obtain ⟨⟨v0, v1⟩, f0, f1⟩ := B') | skip); clear hb' K; have K := K'; clear K'; have R1' := keepc K.out R1; have R0' := keepc K.out R0; have X1' := keepc K.out X1; have X0' := keepc K.out X0))
            all_goals
              go_wp2_with fail
              go_meet
              first
                | exact ⟨_, rfl, ⟨(HJ.out.below K.out).alloc _, El.newR _ z _, by have := K.out.size; omega⟩⟩
                | exact ⟨_, rfl, ⟨HJ.out.below ((K.out.setCell (Nat.le_refl _) _).setCell (Nat.le_refl _) _), (B.set z.1 z.2).toEl, by omega⟩⟩
          case rest =>
            obtain ⟨q9, rfl, HK⟩ := hcut
            clear HJ R1 R0 X1 X0 MU hgl
            have K : Wp W wc g cp (N + i) M qx q9 x z := HK.out
            clear HK
            go_upto_region 12 with fail
            refine wp_region_noPanic ?_
            refine wp_region_peel (S := fun w => w.cell? ⟨g, i * 2, none⟩ = some (.int .u64 (c.1 : Int)) ∧ w.cell? ⟨g, i * 2 + 1, none⟩ = some (.int .u64 (c.2 : Int)) ∧ w.cell? ⟨q9, 0, none⟩ = some (.int .u64 (z.1 : Int)) ∧ w.cell? ⟨q9, 1, none⟩ = some (.int .u64 (z.2 : Int))) 9 (by kernel_rfl) rfl (by kernel_rfl) ?_ (fun hHeld => ?_)
            · exact by rw [HC.out.2]; exact K.facts i (by omega) HM.out.1
            refine wpAnyH_take (i := 0) (oi := _) (v := ?_) rfl (by kernel_rfl) (by kernel_rfl) (by kernel_rfl) (fun _ _ _ h => h) (Or.inl ⟨by rfl, ?_⟩) (by assumption) ?_
            rotate_left
            · ((intro w hSw; (try dsimp only at hSw); go_simp) <;> (try with_reducible rfl))
            try simp only [Act.put]
            refine wpAnyH_take (i := 1) (oi := _) (v := ?_) rfl (by kernel_rfl) (by kernel_rfl) (by kernel_rfl) (fun _ _ _ h => h) (Or.inl ⟨by rfl, ?_⟩) (by assumption) ?_
            rotate_left
            · ((intro w hSw; (try dsimp only at hSw); go_simp) <;> (try with_reducible rfl))
            try simp only [Act.put]
            refine wpAnyH_take (i := 2) (oi := _) (v := ?_) rfl (by kernel_rfl) (by kernel_rfl) (by kernel_rfl) (fun _ _ _ h => h) (Or.inl ⟨by rfl, ?_⟩) (by assumption) ?_
            rotate_left
            · ((intro w hSw; (try dsimp only at hSw); go_simp) <;> (try with_reducible rfl))
            try simp only [Act.put]
            refine wpAnyH_take (i := 3) (oi := _) (v := ?_) rfl (by kernel_rfl) (by kernel_rfl) (by kernel_rfl) (fun _ _ _ h => h) (Or.inl ⟨by rfl, ?_⟩) (by assumption) ?_
            rotate_left
            · ((intro w hSw; (try dsimp only at hSw); go_simp) <;> (try with_reducible rfl))
            try simp only [Act.put]
            refine wpAnyH_take (i := 4) (oi := _) (v := ?_) rfl (by kernel_rfl) (by kernel_rfl) (by kernel_rfl) (fun _ _ _ h => h) (Or.inl ⟨by rfl, ?_⟩) (by assumption) ?_
            rotate_left
            · ((intro w hSw; (try dsimp only at hSw); go_simp) <;> (try with_reducible rfl))
            try simp only [Act.put]
            refine wpAnyH_take (i := 5) (oi := _) (v := ?_) rfl (by kernel_rfl) (by kernel_rfl) (by kernel_rfl) (fun _ _ _ h => h) (Or.inl ⟨by rfl, ?_⟩) (by assumption) ?_
            rotate_left
            · ((intro w hSw; (try dsimp only at hSw); go_simp) <;> (try with_reducible rfl))
            try simp only [Act.put]
            refine wpAnyH_take (i := 6) (oi := _) (v := ?_) rfl (by kernel_rfl) (by kernel_rfl) (by kernel_rfl) (fun _ _ _ h => h) (Or.inl ⟨by rfl, ?_⟩) (by assumption) ?_
            rotate_left
            · ((intro w hSw; (try dsimp only at hSw); go_simp) <;> (try with_reducible rfl))
            try simp only [Act.put]
            refine wpAnyH_ready (rs := [7]) (by kernel_rfl) (by simp) ?_
            refine AllReadyH.cons (o := _) rfl (fun KK hKK => ?_) AllReadyH.nil
            go_simp
            (go_at_call 56; refine (AD.out.go _).mono ?_; rintro e w' ⟨rfl, hb'⟩)
            have K'' := Wp.below (w' := w') (by first | exact K | exact K.drew) hb'
            clear K hb'
            have K := K''
            clear K''
            (try simp only [World.size_drew] at K)
            refine hKK.out _ _ ?_ (fun hHeld => ?_)
            · exact by rw [HC.out.2]; exact K.facts i (by omega) HM.out.1
            clear hKK KK
            try simp only [Act.put]
            refine wpAnyH_take (i := 8) (oi := _) (v := ?_) rfl (by kernel_rfl) (by kernel_rfl) (by kernel_rfl) (fun _ _ _ h => h) (Or.inl ⟨by rfl, ?_⟩) (by assumption) ?_
            rotate_left
            · ((intro w hSw; (try dsimp only at hSw); go_simp) <;> (try with_reducible rfl))
            try simp only [Act.put]
            refine wpAnyH_done (by kernel_rfl) ?_ _
            refine peel_last rfl (fun KK hKK => ?_)
            clear hHeld
            have f1 := (own_cellR K.o.own (i * 2) (by omega)).2
            have f0 := (own_cellR K.o.own (i * 2 + 1) (by omega)).2
            obtain ⟨r1, r0, z1, z0⟩ := K.facts i (by omega) HM.out.1
            go_simp
            refine hKK _ _ ?_
            refine NoPanic.normal ?_
            clear hKK KK
            have K2 : Hid (Wp W ((w'.setCell ⟨g, i * 2, none⟩ (.int .u64 (y.1 : Int))).setCell ⟨g, i * 2 + 1, none⟩ (.int .u64 (y.2 : Int))) g cp (N + i) (M.set i y) qx q9 x z) := K.put i (by rw [HM.out.1]; omega) y
            clear K r1 r0 z1 z0 f1 f0 AD
            generalize ((w'.setCell ⟨g, i * 2, none⟩ (.int .u64 (y.1 : Int))).setCell ⟨g, i * 2 + 1, none⟩ (.int .u64 (y.2 : Int))) = w5 at *
            have z1 := K2.out.z.hi
            have z0 := K2.out.z.lo
            go_wp2_with (at_builtin; refine wpList_append_own_at _ rfl _ _ 25 rfl W.heap.size 24 i0 (.agg #[.int .u64 0, .int .u64 0]) 2 16 Try.underlying25 HI.out.1 HI.out.2.1 HI.out.2.2.1 HI.out.2.2.2 rfl (by decide) _ _ _ rfl (own_below K2.out.o.own ((Below.refl _ _).alloc (Nat.le_refl _) _)) ⟨w5.heap.size, 0, none⟩ 1 1 [.int .u64 (z.1 : Nat), .int .u64 (z.2 : Nat)] rfl rfl (fun p u hu => by rcases p with _ | _ | p <;> simp at hu <;> subst hu <;> simp [go_sem]) (by intro u hu; simp at hu; rcases hu with rfl | rfl <;> rfl) (by simp only [maxLen]; omega) (by omega) (by have := K2.out.o.d.size; simp; omega) ?_; intro v' w7 hown7 hgr7 _ hob7)
            refine ⟨⟨i + 1, M.set i y ++ [z], hiN, by simp, ⟨by simp [HM.out.1]; omega, fun x hx => ?_⟩, ⟨by rw [flat_end]; exact hown7, (K2.out.o.x.alloc _).growR hgr7 K2.out.o.n, ?_, (K2.out.o.d.alloc K2.out.o.d.size _).grown hgr7 (by have := K2.out.o.d.size; simp; omega) fun g hg => (K2.out.o.own.lt g hg).1⟩⟩, by simp [intOf]; omega⟩
            · rw [el_end (n := N + i) (by simp [HM.out.1])]
              by_cases h1 : x = N + i
              · rw [if_pos h1, HZ.out.1, h1]
                unfold Wji
                rw [if_neg (by omega), if_neg (by omega)]
              · rw [if_neg h1, el_set (by rw [HM.out.1]; omega)]
                by_cases h2 : x = i
                · rw [if_pos h2, HZ.out.2, h2]
                  unfold Wji
                  rw [if_pos (by omega)]
                · rw [if_neg h2, HM.out.2 x (by omega)]
                  unfold Wji
                  by_cases h3 : x < i
                  · rw [if_pos h3, if_pos (by omega)]
                  · rw [if_neg h3, if_neg (show ¬ x < i + 1 by omega)]
            · rcases hob7 with h | h
              · rw [h]; exact K2.out.o.n
              · rw [h]
                intro e
                have := K2.out.o.x.lt
                simp at e
                omega
        · obtain rfl : i = N := by omega
          clear HI
          go_wp2_with fail
          refine ⟨⟨j + 1, i + i, M, hlt, by simp, ⟨by rw [HL.out.1, Nat.pow_succ]; omega, HM.out.1, fun x hx => ?_⟩, ⟨HJ.out.own, HJ.out.d⟩⟩, by simp [intOf]; omega⟩
          rw [HM.out.2 x hx]
          unfold Wji
          by_cases h3 : x < i
          · rw [if_pos h3]
          · rw [if_neg h3, if_neg h3]
    · obtain rfl : j = q := by omega
      obtain rfl : N = n := by rw [HL.out.1]; exact HP.out.2.2.2.2
      have HE : Hid (L = wts p N) := by
        show _ = _
        refine list_ext (by rw [HL.out.2.1, wts_len]) fun i hi => ?_
        rw [HL.out.2.1] at hi
        rw [HL.out.2.2 i hi, wts_at p N hi, List.take_of_length_le (by rw [HP.out.2.1]; exact Nat.le_refl _)]
      go_wp2
      refine bodyPost_ret (v := .slice (some ⟨g0, 0, none⟩) N cp0) (by simp [results, Try.results53, go_sem, *]) rfl ⟨g0, cp0, rfl, ?_, HO.out.2⟩
      rw [← HE.out]
      exact HO.out.1
end Go.Proofs.Ytcejppibcemdeaa
