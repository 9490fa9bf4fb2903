/- Contracts of steeplelaw01.read over the seat's translation: one element. -/
import Derived.Test.YtccpbpajappckaaOsG
import Derived.Test.YtccpbpajappckaaOsH
namespace Go.Proofs.Ytccpbpajappckaa
open Go.RowKit

theorem Rk.set2 {W w : World} {q : Nat} {s : ByteArray} {e k m g l : Int} (h : Rk W w q s e k m g l) (hq : q < W.heap.size) {c : Nat} (hc : W.heap.size + 1 + 1 < c) (x y : Value) : Rk W ((w.setCell ⟨c, 0, none⟩ x).setCell ⟨c, 1, none⟩ y) q s e k m g l := by
  have hk : ∀ i, i ≠ c → ((w.setCell ⟨c, 0, none⟩ x).setCell ⟨c, 1, none⟩ y).heap[i]? = w.heap[i]? := fun i hi => (Below.heap_setCell _ _ _ _ hi).trans (Below.heap_setCell _ _ _ _ hi)
  exact ⟨h.st.put2 (by omega) hq _ _, (World.cell?_of_block (hk W.heap.size (by omega))).trans h.s0, (World.cell?_of_block (hk W.heap.size (by omega))).trans h.s1, (World.cell?_of_block (hk (W.heap.size + 1) (by omega))).trans h.c0, (World.cell?_of_block (hk (W.heap.size + 1) (by omega))).trans h.c1, (World.cell?_of_block (hk (W.heap.size + 1) (by omega))).trans h.c2, (World.cell?_of_block (hk (W.heap.size + 1) (by omega))).trans h.c3, h.r.blk (hk (W.heap.size + 1 + 1) (by omega))⟩
set_option maxRecDepth 100000 in
set_option maxHeartbeats 8000000 in
theorem read_elem1 (q : Nat) (s : ByteArray) (e m g l : Int) (q1 : ByteArray) (t : Nat × Nat) (ht : rdElem s e l = (q1, 0, t)) (W : World) (h : Rd q s e W) : Calls Try.prog 7 #[.pointer (some ⟨q, 0, none⟩), .agg #[.string s, .int .i64 e], .agg #[.int .i64 3, .int .i64 m, .int .i64 g, .int .i64 l]] W fun r w' => r = .returned (.tuple #[.agg #[.string q1, .int .i64 0], .bool true]) ∧ Step q q1 0 W w' := by
  have H1 := hidR (fun w => rR_elem s e l w)
  have H2 := hidR (fun w (hw : Rd q s e w) => rd_elem q s e l w hw)
  rw [ht] at H1 H2
  dsimp only at H1 H2
  clear ht
  have hq : q < W.heap.size := h.lt
  have KS := hidR (Rk.start W q s e 3 m g l h)
  clear h
  go_enter Try.func7, Try.ntmps7
  go_upto_region 1 with fail
  generalize (((W.alloc (Obj.cells #[.string s, .int .i64 e] 27)).alloc (Obj.cells #[.int .i64 3, .int .i64 m, .int .i64 g, .int .i64 l] 31)).alloc (Obj.cells #[.string ⟨#[]⟩, .int .i64 0] 27)) = w0 at *
  have s0 := KS.out.s0
  have s1 := KS.out.s1
  have c0 := KS.out.c0
  have c1 := KS.out.c1
  have c2 := KS.out.c2
  have c3 := KS.out.c3
  go_upto_region 17 with (go_at_call 28; refine (H1.out _).mono ?_; rintro r w1 ⟨v, rfl, ho, hb1⟩; obtain ⟨g0, hg0, rfl, hc⟩ : ∃ g0, w0.heap.size ≤ g0 ∧ v = .slice (some ⟨g0, 0, none⟩) 1 1 ∧ El w1 g0 t.1 t.2 := (by rcases ho with ⟨_, h⟩ | ⟨h, _⟩; exact h; exact absurd rfl h); have K1 : Hid (Rk W w1 q s e 3 m g l ∧ El w1 g0 t.1 t.2 ∧ W.heap.size + 1 + 1 < g0) := ⟨KS.out.below hb1, hc, Nat.lt_of_lt_of_le (cell_lt KS.out.r.c0) hg0⟩; clear hb1 KS s0 s1 c0 c1 c2 c3 ho hc hg0)
  have BN : Below w1.heap.size w1 ((w1.alloc (Obj.cells #[.string q1, .int .i64 0, .slice (some ⟨g0, 0, none⟩) 1 1] 67)).alloc (Obj.cells #[.int .u64 0, .int .u64 0] 69)) := ((Below.refl _ _).alloc (Nat.le_refl _) _).alloc (by simp) _
  have KA : Hid (Rk W ((w1.alloc (Obj.cells #[.string q1, .int .i64 0, .slice (some ⟨g0, 0, none⟩) 1 1] 67)).alloc (Obj.cells #[.int .u64 0, .int .u64 0] 69)) q s e 3 m g l ∧ R3 ((w1.alloc (Obj.cells #[.string q1, .int .i64 0, .slice (some ⟨g0, 0, none⟩) 1 1] 67)).alloc (Obj.cells #[.int .u64 0, .int .u64 0] 69)) w1.heap.size (.string q1) (.int .i64 0) (.slice (some ⟨g0, 0, none⟩) 1 1) ∧ Ew ((w1.alloc (Obj.cells #[.string q1, .int .i64 0, .slice (some ⟨g0, 0, none⟩) 1 1] 67)).alloc (Obj.cells #[.int .u64 0, .int .u64 0] 69)) (w1.heap.size + 1) 0 0 ∧ W.heap.size + 1 + 1 < w1.heap.size ∧ El ((w1.alloc (Obj.cells #[.string q1, .int .i64 0, .slice (some ⟨g0, 0, none⟩) 1 1] 67)).alloc (Obj.cells #[.int .u64 0, .int .u64 0] 69)) g0 t.1 t.2 ∧ W.heap.size + 1 + 1 < g0 ∧ g0 < w1.heap.size) := ⟨K1.out.1.below BN, ⟨by simp [go_sem], by simp [go_sem], by simp [go_sem], by simp [go_sem], by simp [go_sem], by simp [go_sem]⟩, ⟨⟨by simp [go_sem], by simp [go_sem]⟩, by simp [go_sem], by simp [go_sem]⟩, cell_lt K1.out.1.r.c0, K1.out.2.1.below BN, K1.out.2.2, cell_lt K1.out.2.1.hi⟩
  clear K1 BN
  generalize ((w1.alloc (Obj.cells #[.string q1, .int .i64 0, .slice (some ⟨g0, 0, none⟩) 1 1] 67)).alloc (Obj.cells #[.int .u64 0, .int .u64 0] 69)) = Z at *
  generalize w1.heap.size = b at *
  obtain ⟨g1, g2⟩ := KA.out.2.2.2.2.1
  obtain ⟨⟨e1, e0⟩, u1, u0⟩ := KA.out.2.2.1
  obtain ⟨a0, a1, a2, _, _, _⟩ := KA.out.2.1
  go_upto_region 19 with fail
  have hk : ∀ i, i ≠ b + 1 → ((Z.setCell ⟨b + 1, 0, none⟩ (.int .u64 (t.1 : Int))).setCell ⟨b + 1, 1, none⟩ (.int .u64 (t.2 : Int))).heap[i]? = Z.heap[i]? := fun i hi => (Below.heap_setCell _ _ _ _ hi).trans (Below.heap_setCell _ _ _ _ hi)
  have KB : Hid (Rk W ((Z.setCell ⟨b + 1, 0, none⟩ (.int .u64 (t.1 : Int))).setCell ⟨b + 1, 1, none⟩ (.int .u64 (t.2 : Int))) q s e 3 m g l ∧ R3 ((Z.setCell ⟨b + 1, 0, none⟩ (.int .u64 (t.1 : Int))).setCell ⟨b + 1, 1, none⟩ (.int .u64 (t.2 : Int))) b (.string q1) (.int .i64 0) (.slice (some ⟨g0, 0, none⟩) 1 1) ∧ El ((Z.setCell ⟨b + 1, 0, none⟩ (.int .u64 (t.1 : Int))).setCell ⟨b + 1, 1, none⟩ (.int .u64 (t.2 : Int))) (b + 1) t.1 t.2 ∧ W.heap.size + 1 + 1 < b) := ⟨KA.out.1.set2 hq (by have := KA.out.2.2.2.1; omega) _ _, KA.out.2.1.blk (hk b (by omega)), (KA.out.2.2.1.set _ _).toEl, KA.out.2.2.2.1⟩
  clear KA g1 g2 e1 e0 u1 u0 a0 a1 a2 hk
  generalize ((Z.setCell ⟨b + 1, 0, none⟩ (.int .u64 (t.1 : Int))).setCell ⟨b + 1, 1, none⟩ (.int .u64 (t.2 : Int))) = Y at *
  have hb := KB.out.2.2.2
  have c3 := KB.out.1.c3
  obtain ⟨a0, a1, a2, _, _, _⟩ := KB.out.2.1
  obtain ⟨e1, e0⟩ := KB.out.2.2.1
  obtain ⟨r0, r1, f0, f1⟩ := KB.out.1.r
  have n1 : ¬ W.heap.size + 1 + 1 = b := by omega
  have n2 : ¬ b = W.heap.size + 1 + 1 := by omega
  have n3 : ¬ W.heap.size + 1 + 1 = b + 1 := by omega
  have n4 : ¬ b + 1 = W.heap.size + 1 + 1 := by omega
  go_region_held3 (fun w => w.cell? ⟨b, 0, none⟩ = some (.string q1) ∧ w.cell? ⟨b, 1, none⟩ = some (.int .i64 0) ∧ w.cell? ⟨b + 1, 0, none⟩ = some (.int .u64 (t.1 : Int)) ∧ w.cell? ⟨b + 1, 1, none⟩ = some (.int .u64 (t.2 : Int)) ∧ w.cell? ⟨W.heap.size + 1, 3, none⟩ = some (.int .i64 l)) (first | (go_keep; done) | (exact ⟨by simp [go_sem, *], by simp [go_sem, *], by simp [go_sem, *], by simp [go_sem, *], by simp [go_sem, *]⟩)) ((go_at_call 29; refine (H2.out _ (by first | exact KB.out.1.st.here | exact (KB.out.1.below (Below.refl _ _).drew).st.here)).mono ?_; rintro r w2 ⟨rfl, st⟩; have K2 := hidR (And.intro ((KB.out.1.below (Below.refl _ _).drew).step hq st) (And.intro (KB.out.2.1.blk (st.rest b (cell_lt a0) (by omega))) (And.intro (st.keep e1 (by omega)) (st.keep e0 (by omega))))); clear st KB a0 a1 a2 r0 r1 f0 f1 c3 e1 e0; obtain ⟨a0, a1, a2, _, _, _⟩ := K2.out.2.1; obtain ⟨r0, r1, f0, f1⟩ := K2.out.1.2.2.2.2.2; have c3 := K2.out.1.2.2.2.2.1; have e1 := K2.out.2.2.1; have e0 := K2.out.2.2.2))
  all_goals
    go_wp2
    refine bodyPost_ret (v := .tuple #[.agg #[.string q1, .int .i64 0], .bool true]) (by simp [results, Try.results7, go_sem, *]) rfl ⟨rfl, K2.out.1.1.put2 (by omega) hq _ _⟩
set_option maxRecDepth 100000 in
set_option maxHeartbeats 8000000 in
theorem read_elem0 (q : Nat) (s : ByteArray) (e m g l : Int) (q1 : ByteArray) (q2 : Int) (hq2 : q2 ≠ 0) (ht : rdElem s e l = (q1, q2, (0, 0))) (W : World) (h : Rd q s e W) : Calls Try.prog 7 #[.pointer (some ⟨q, 0, none⟩), .agg #[.string s, .int .i64 e], .agg #[.int .i64 3, .int .i64 m, .int .i64 g, .int .i64 l]] W fun r w' => r = .returned (.tuple #[.agg #[.string q1, .int .i64 q2], .bool true]) ∧ Step q q1 q2 W w' := by
  have H1 := hidR (fun w => rR_elem s e l w)
  have H2 := hidR (fun w (hw : Rd q s e w) => rd_elem q s e l w hw)
  rw [ht] at H1 H2
  dsimp only at H1 H2
  clear ht
  have hq : q < W.heap.size := h.lt
  have KS := hidR (Rk.start W q s e 3 m g l h)
  clear h
  go_enter Try.func7, Try.ntmps7
  go_upto_region 1 with fail
  generalize (((W.alloc (Obj.cells #[.string s, .int .i64 e] 27)).alloc (Obj.cells #[.int .i64 3, .int .i64 m, .int .i64 g, .int .i64 l] 31)).alloc (Obj.cells #[.string ⟨#[]⟩, .int .i64 0] 27)) = w0 at *
  have s0 := KS.out.s0
  have s1 := KS.out.s1
  have c0 := KS.out.c0
  have c1 := KS.out.c1
  have c2 := KS.out.c2
  have c3 := KS.out.c3
  go_upto_region 17 with (go_at_call 28; refine (H1.out _).mono ?_; rintro r w1 ⟨v, rfl, ho, hb1⟩; obtain rfl : v = .slice none 0 0 := (by rcases ho with ⟨h, _⟩ | ⟨_, h⟩; exact absurd h hq2; exact h); have K1 : Hid (Rk W w1 q s e 3 m g l) := KS.out.below hb1; clear hb1 KS s0 s1 c0 c1 c2 c3 ho)
  have BN : Below w1.heap.size w1 ((w1.alloc (Obj.cells #[.string q1, .int .i64 q2, .slice none 0 0] 67)).alloc (Obj.cells #[.int .u64 0, .int .u64 0] 69)) := ((Below.refl _ _).alloc (Nat.le_refl _) _).alloc (by simp) _
  have KA : Hid (Rk W ((w1.alloc (Obj.cells #[.string q1, .int .i64 q2, .slice none 0 0] 67)).alloc (Obj.cells #[.int .u64 0, .int .u64 0] 69)) q s e 3 m g l ∧ R3 ((w1.alloc (Obj.cells #[.string q1, .int .i64 q2, .slice none 0 0] 67)).alloc (Obj.cells #[.int .u64 0, .int .u64 0] 69)) w1.heap.size (.string q1) (.int .i64 q2) (.slice none 0 0) ∧ Ew ((w1.alloc (Obj.cells #[.string q1, .int .i64 q2, .slice none 0 0] 67)).alloc (Obj.cells #[.int .u64 0, .int .u64 0] 69)) (w1.heap.size + 1) 0 0 ∧ W.heap.size + 1 + 1 < w1.heap.size) := ⟨K1.out.below BN, ⟨by simp [go_sem], by simp [go_sem], by simp [go_sem], by simp [go_sem], by simp [go_sem], by simp [go_sem]⟩, ⟨⟨by simp [go_sem], by simp [go_sem]⟩, by simp [go_sem], by simp [go_sem]⟩, cell_lt K1.out.r.c0⟩
  clear K1 BN
  generalize ((w1.alloc (Obj.cells #[.string q1, .int .i64 q2, .slice none 0 0] 67)).alloc (Obj.cells #[.int .u64 0, .int .u64 0] 69)) = Z at *
  generalize w1.heap.size = b at *
  obtain ⟨a0, a1, a2, _, _, _⟩ := KA.out.2.1
  go_upto_region 19 with fail
  have KB : Hid (Rk W Z q s e 3 m g l ∧ R3 Z b (.string q1) (.int .i64 q2) (.slice none 0 0) ∧ El Z (b + 1) 0 0 ∧ W.heap.size + 1 + 1 < b) := ⟨KA.out.1, KA.out.2.1, KA.out.2.2.1.toEl, KA.out.2.2.2⟩
  clear KA a0 a1 a2
  have hb := KB.out.2.2.2
  have c3 := KB.out.1.c3
  obtain ⟨a0, a1, a2, _, _, _⟩ := KB.out.2.1
  obtain ⟨e1, e0⟩ := KB.out.2.2.1
  obtain ⟨r0, r1, f0, f1⟩ := KB.out.1.r
  have n1 : ¬ W.heap.size + 1 + 1 = b := by omega
  have n2 : ¬ b = W.heap.size + 1 + 1 := by omega
  have n3 : ¬ W.heap.size + 1 + 1 = b + 1 := by omega
  have n4 : ¬ b + 1 = W.heap.size + 1 + 1 := by omega
  go_region_held3 (fun w => w.cell? ⟨b, 0, none⟩ = some (.string q1) ∧ w.cell? ⟨b, 1, none⟩ = some (.int .i64 q2) ∧ w.cell? ⟨b + 1, 0, none⟩ = some (.int .u64 0) ∧ w.cell? ⟨b + 1, 1, none⟩ = some (.int .u64 0) ∧ w.cell? ⟨W.heap.size + 1, 3, none⟩ = some (.int .i64 l)) (first | (go_keep; done) | (exact ⟨by simp [go_sem, *], by simp [go_sem, *], by simp [go_sem, *], by simp [go_sem, *], by simp [go_sem, *]⟩)) ((go_at_call 29; refine (H2.out _ (by first | exact KB.out.1.st.here | exact (KB.out.1.below (Below.refl _ _).drew).st.here)).mono ?_; rintro r w2 ⟨rfl, st⟩; have K2 := hidR (And.intro ((KB.out.1.below (Below.refl _ _).drew).step hq st) (And.intro (KB.out.2.1.blk (st.rest b (cell_lt a0) (by omega))) (And.intro (st.keep e1 (by omega)) (st.keep e0 (by omega))))); clear st KB a0 a1 a2 r0 r1 f0 f1 c3 e1 e0; obtain ⟨a0, a1, a2, _, _, _⟩ := K2.out.2.1; obtain ⟨r0, r1, f0, f1⟩ := K2.out.1.2.2.2.2.2; have c3 := K2.out.1.2.2.2.2.1; have e1 := K2.out.2.2.1; have e0 := K2.out.2.2.2))
  all_goals
    go_wp2
    refine bodyPost_ret (v := .tuple #[.agg #[.string q1, .int .i64 q2], .bool true]) (by simp [results, Try.results7, go_sem, *]) rfl ⟨rfl, K2.out.1.1.put2 (by omega) hq _ _⟩
end Go.Proofs.Ytccpbpajappckaa
