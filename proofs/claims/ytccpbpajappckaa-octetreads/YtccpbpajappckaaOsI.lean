/- Contracts of steeplelaw01.read over the seat's translation: lists, elements. -/
import Derived.Test.YtccpbpajappckaaOsG
import Derived.Test.YtccpbpajappckaaOsH
import Derived.Test.YtccpbpajappckaaOrL
namespace Go.Proofs.Ytccpbpajappckaa
open Go.RowKit

set_option maxRecDepth 100000 in
set_option maxHeartbeats 8000000 in
theorem read_list (q : Nat) (s : ByteArray) (hs : s.size ≤ 3000) (e m g l : Int) (W : World) (h : Rd q s e W) : Calls Try.prog 7 #[.pointer (some ⟨q, 0, none⟩), .agg #[.string s, .int .i64 e], .agg #[.int .i64 2, .int .i64 m, .int .i64 g, .int .i64 l]] W fun r w' => r = .returned (.tuple #[.agg #[.string (rdList s e m g).1, .int .i64 (rdList s e m g).2.1], .bool true]) ∧ Step q (rdList s e m g).1 (rdList s e m g).2.1 W w' := by
  have H1 : Hid (∀ w, Calls Try.prog 27 #[.agg #[.string s, .int .i64 e], .int .i64 m, .int .i64 g] w fun r w' => ∃ a cap, r = .returned (.agg #[.string (rdList s e m g).1, .int .i64 (rdList s e m g).2.1, .slice a ((rdList s e m g).2.2.getD []).length cap]) ∧ StrRow w' a ((rdList s e m g).2.2.getD []) ∧ (∀ g off, a = some ⟨g, off, none⟩ → w.heap.size ≤ g) ∧ Below w.heap.size w w') := fun w => (rR_list s e m g w).mono fun r w' ⟨v, h1, ⟨h2, h3⟩, h4⟩ => by
    obtain ⟨a, cap, rfl, hr⟩ := TxS.row h2
    exact ⟨a, cap, h1, hr, fun g off e => h3 g (by rw [e]; rfl), h4⟩
  have H2 : Hid (∀ w, Rd q s e w → Calls Try.prog 18 #[.pointer (some ⟨q, 0, none⟩), .int .i64 m, .int .i64 g] w fun r w' => ∃ a cap, r = .returned (.slice a ((rdList s e m g).2.2.getD []).length cap) ∧ StrRow w' a ((rdList s e m g).2.2.getD []) ∧ Step q (rdList s e m g).1 (rdList s e m g).2.1 w w') := fun w hw => (rd_list q s e m g w hw).mono fun r w' ⟨v, h1, h2, h4⟩ => by
    obtain ⟨a, cap, rfl, hr⟩ := TxS.row h2
    exact ⟨a, cap, h1, hr, h4⟩
  have hz := (list_size s e m g).2
  generalize rdList s e m g = t at *
  obtain ⟨q1, q2, o⟩ := t
  dsimp only at *
  generalize o.getD [] = ss at *
  have hq : q < W.heap.size := h.lt
  have KS := hidR (Rk.start W q s e 2 m g l h)
  clear h
  go_enter Try.func7, Try.ntmps7
  go_upto_region 1 with fail
  generalize (((W.alloc (Obj.cells #[.string s, .int .i64 e] 27)).alloc (Obj.cells #[.int .i64 2, .int .i64 m, .int .i64 g, .int .i64 l] 31)).alloc (Obj.cells #[.string ⟨#[]⟩, .int .i64 0] 27)) = w0 at *
  have s0 := KS.out.s0
  have s1 := KS.out.s1
  have c0 := KS.out.c0
  have c1 := KS.out.c1
  have c2 := KS.out.c2
  have c3 := KS.out.c3
  go_upto_region 13 with (go_at_call 27; refine (H1.out _).mono ?_; rintro r w1 ⟨ad1, cq1, rfl, R9, fr, hb1⟩; have K1 : Hid (Rk W w1 q s e 2 m g l ∧ StrRow w1 ad1 ss ∧ ∀ g' off, ad1 = some ⟨g', off, none⟩ → g' ≠ q) := ⟨KS.out.below hb1, R9, fun g' off e => by have := fr g' off e; have := cell_lt KS.out.r.c0; omega⟩; clear hb1 KS s0 s1 c0 c1 c2 c3 R9 fr)
  have KA : Hid (Rk W (w1.alloc (Obj.cells #[.string q1, .int .i64 q2, .slice ad1 ss.length cq1] 63)) q s e 2 m g l ∧ R3 (w1.alloc (Obj.cells #[.string q1, .int .i64 q2, .slice ad1 ss.length cq1] 63)) w1.heap.size (.string q1) (.int .i64 q2) (.slice ad1 ss.length cq1) ∧ W.heap.size + 1 + 1 < w1.heap.size ∧ StrRow (w1.alloc (Obj.cells #[.string q1, .int .i64 q2, .slice ad1 ss.length cq1] 63)) ad1 ss ∧ ∀ g' off, ad1 = some ⟨g', off, none⟩ → g' ≠ q) := ⟨K1.out.1.below ((Below.refl _ _).alloc (Nat.le_refl _) _), R3.new _ _ _ _ _, cell_lt K1.out.1.r.c0, K1.out.2.1.belowR ((Below.refl _ _).alloc (Nat.le_refl _) _), K1.out.2.2⟩
  clear K1
  generalize (w1.alloc (Obj.cells #[.string q1, .int .i64 q2, .slice ad1 ss.length cq1] 63)) = Z at *
  generalize w1.heap.size = b at *
  have hb := KA.out.2.2.1
  have c1 := KA.out.1.c1
  have c2 := KA.out.1.c2
  have c3 := KA.out.1.c3
  obtain ⟨a0, a1, a2, _, _, _⟩ := KA.out.2.1
  obtain ⟨r0, r1, f0, f1⟩ := KA.out.1.r
  have n1 : ¬ W.heap.size + 1 + 1 = b := by omega
  have n2 : ¬ b = W.heap.size + 1 + 1 := by omega
  go_region_held3 (fun w => w.cell? ⟨b, 0, none⟩ = some (.string q1) ∧ w.cell? ⟨b, 1, none⟩ = some (.int .i64 q2) ∧ w.cell? ⟨b, 2, none⟩ = some (.slice ad1 ss.length cq1) ∧ w.cell? ⟨W.heap.size + 1, 1, none⟩ = some (.int .i64 m) ∧ w.cell? ⟨W.heap.size + 1, 2, none⟩ = some (.int .i64 g) ∧ w.cell? ⟨W.heap.size + 1, 3, none⟩ = some (.int .i64 l)) (first | (go_keep; done) | (exact ⟨by simp [go_sem, *], by simp [go_sem, *], by simp [go_sem, *], by simp [go_sem, *], by simp [go_sem, *], by simp [go_sem, *]⟩)) (first | (go_at_call 18; refine (H2.out _ (by first | exact KA.out.1.st.here | exact (KA.out.1.below (Below.refl _ _).drew).st.here)).mono ?_; rintro r w2 ⟨ad2, cq2, rfl, R8, st⟩; have K2 := hidR (And.intro ((KA.out.1.below (Below.refl _ _).drew).step hq st) (And.intro (KA.out.2.1.blk (st.rest b (cell_lt a0) (by omega))) (And.intro ((KA.out.2.2.2.1.belowR (Below.refl _ _).drew).step st KA.out.2.2.2.2) R8))); clear st KA a0 a1 a2 r0 r1 f0 f1 c1 c2 c3 R8; obtain ⟨a0, a1, a2, _, _, _⟩ := K2.out.2.1; obtain ⟨r0, r1, f0, f1⟩ := K2.out.1.2.2.2.2.2; have c1 := K2.out.1.2.2.1; have c2 := K2.out.1.2.2.2.1; have c3 := K2.out.1.2.2.2.2.1) | (go_at_call 21; refine (texts_alike ad2 ad1 ss.length cq2 cq1 ss rfl (by omega) _ K2.out.2.2.2 K2.out.2.2.1).mono ?_; rintro r w3 ⟨rfl, hb3⟩; have K3 := hidR (And.intro (K2.out.1.1.below hb3) (And.intro (K2.out.1.2.2.2.2.2.below hb3) (And.intro (K2.out.2.1.below hb3) (And.intro (keepc hb3 K2.out.1.2.2.1) (And.intro (keepc hb3 K2.out.1.2.2.2.1) (keepc hb3 K2.out.1.2.2.2.2.1)))))); clear hb3 K2 a0 a1 a2 r0 r1 f0 f1 c1 c2 c3; obtain ⟨a0, a1, a2, _, _, _⟩ := K3.out.2.2.1; obtain ⟨r0, r1, f0, f1⟩ := K3.out.2.1; have c1 := K3.out.2.2.2.1; have c2 := K3.out.2.2.2.2.1; have c3 := K3.out.2.2.2.2.2))
  all_goals
    go_wp2
    refine bodyPost_ret (v := .tuple #[.agg #[.string q1, .int .i64 q2], .bool true]) (by simp [results, Try.results7, go_sem, *]) rfl ⟨rfl, K3.out.1.put2 (by omega) hq _ _⟩
set_option maxRecDepth 100000 in
set_option maxHeartbeats 8000000 in
theorem read_elems (q : Nat) (s : ByteArray) (hs : s.size ≤ 3000) (e m g l : Int) (k : Int) (k0 : (k == 0) = false) (k1 : (k == 1) = false) (k2 : (k == 2) = false) (k3 : (k == 3) = false) (W : World) (h : Rd q s e W) : Calls Try.prog 7 #[.pointer (some ⟨q, 0, none⟩), .agg #[.string s, .int .i64 e], .agg #[.int .i64 k, .int .i64 m, .int .i64 g, .int .i64 l]] W fun r w' => r = .returned (.tuple #[.agg #[.string (rdElems s e l m).1, .int .i64 (rdElems s e l m).2.1], .bool true]) ∧ Step q (rdElems s e l m).1 (rdElems s e l m).2.1 W w' := by
  have H1 : Hid (∀ w, Calls Try.prog 30 #[.agg #[.string s, .int .i64 e], .int .i64 l, .int .i64 m] w fun r w' => ∃ a cap, r = .returned (.agg #[.string (rdElems s e l m).1, .int .i64 (rdElems s e l m).2.1, .slice a ((rdElems s e l m).2.2.getD []).length cap]) ∧ ERow w' a ((rdElems s e l m).2.2.getD []) ∧ (∀ g off, a = some ⟨g, off, none⟩ → w.heap.size ≤ g) ∧ Below w.heap.size w w') := fun w => (rR_elems s e l m w).mono fun r w' ⟨v, h1, ⟨h2, h3⟩, h4⟩ => by
    obtain ⟨a, cap, rfl, hr⟩ := ElR.row h2
    exact ⟨a, cap, h1, hr, fun g off e => h3 g (by rw [e]; rfl), h4⟩
  have H2 : Hid (∀ w, Rd q s e w → Calls Try.prog 19 #[.pointer (some ⟨q, 0, none⟩), .int .i64 l, .int .i64 m] w fun r w' => ∃ a cap, r = .returned (.slice a ((rdElems s e l m).2.2.getD []).length cap) ∧ ERow w' a ((rdElems s e l m).2.2.getD []) ∧ Step q (rdElems s e l m).1 (rdElems s e l m).2.1 w w') := fun w hw => (rd_elems q s e l m w hw).mono fun r w' ⟨v, h1, h2, h4⟩ => by
    obtain ⟨a, cap, rfl, hr⟩ := ElS.row h2
    exact ⟨a, cap, h1, hr, h4⟩
  have hz := (elems_size s e l m).2
  generalize rdElems s e l m = t at *
  obtain ⟨q1, q2, o⟩ := t
  dsimp only at *
  generalize o.getD [] = ss at *
  have hq : q < W.heap.size := h.lt
  have KS := hidR (Rk.start W q s e k m g l h)
  clear h
  go_enter Try.func7, Try.ntmps7
  go_upto_region 1 with fail
  generalize (((W.alloc (Obj.cells #[.string s, .int .i64 e] 27)).alloc (Obj.cells #[.int .i64 k, .int .i64 m, .int .i64 g, .int .i64 l] 31)).alloc (Obj.cells #[.string ⟨#[]⟩, .int .i64 0] 27)) = w0 at *
  have s0 := KS.out.s0
  have s1 := KS.out.s1
  have c0 := KS.out.c0
  have c1 := KS.out.c1
  have c2 := KS.out.c2
  have c3 := KS.out.c3
  go_upto_region 21 with (go_at_call 30; refine (H1.out _).mono ?_; rintro r w1 ⟨ad1, cq1, rfl, R9, fr, hb1⟩; have K1 : Hid (Rk W w1 q s e k m g l ∧ ERow w1 ad1 ss ∧ ∀ g' off, ad1 = some ⟨g', off, none⟩ → g' ≠ q) := ⟨KS.out.below hb1, R9, fun g' off e => by have := fr g' off e; have := cell_lt KS.out.r.c0; omega⟩; clear hb1 KS s0 s1 c0 c1 c2 c3 R9 fr)
  have KA : Hid (Rk W (w1.alloc (Obj.cells #[.string q1, .int .i64 q2, .slice ad1 ss.length cq1] 67)) q s e k m g l ∧ R3 (w1.alloc (Obj.cells #[.string q1, .int .i64 q2, .slice ad1 ss.length cq1] 67)) w1.heap.size (.string q1) (.int .i64 q2) (.slice ad1 ss.length cq1) ∧ W.heap.size + 1 + 1 < w1.heap.size ∧ ERow (w1.alloc (Obj.cells #[.string q1, .int .i64 q2, .slice ad1 ss.length cq1] 67)) ad1 ss ∧ ∀ g' off, ad1 = some ⟨g', off, none⟩ → g' ≠ q) := ⟨K1.out.1.below ((Below.refl _ _).alloc (Nat.le_refl _) _), R3.new _ _ _ _ _, cell_lt K1.out.1.r.c0, K1.out.2.1.below ((Below.refl _ _).alloc (Nat.le_refl _) _), K1.out.2.2⟩
  clear K1
  generalize (w1.alloc (Obj.cells #[.string q1, .int .i64 q2, .slice ad1 ss.length cq1] 67)) = Z at *
  generalize w1.heap.size = b at *
  have hb := KA.out.2.2.1
  have c1 := KA.out.1.c1
  have c2 := KA.out.1.c2
  have c3 := KA.out.1.c3
  obtain ⟨a0, a1, a2, _, _, _⟩ := KA.out.2.1
  obtain ⟨r0, r1, f0, f1⟩ := KA.out.1.r
  have n1 : ¬ W.heap.size + 1 + 1 = b := by omega
  have n2 : ¬ b = W.heap.size + 1 + 1 := by omega
  go_region_held3 (fun w => w.cell? ⟨b, 0, none⟩ = some (.string q1) ∧ w.cell? ⟨b, 1, none⟩ = some (.int .i64 q2) ∧ w.cell? ⟨b, 2, none⟩ = some (.slice ad1 ss.length cq1) ∧ w.cell? ⟨W.heap.size + 1, 1, none⟩ = some (.int .i64 m) ∧ w.cell? ⟨W.heap.size + 1, 2, none⟩ = some (.int .i64 g) ∧ w.cell? ⟨W.heap.size + 1, 3, none⟩ = some (.int .i64 l)) (first | (go_keep; done) | (exact ⟨by simp [go_sem, *], by simp [go_sem, *], by simp [go_sem, *], by simp [go_sem, *], by simp [go_sem, *], by simp [go_sem, *]⟩)) (first | (go_at_call 19; refine (H2.out _ (by first | exact KA.out.1.st.here | exact (KA.out.1.below (Below.refl _ _).drew).st.here)).mono ?_; rintro r w2 ⟨ad2, cq2, rfl, R8, st⟩; have K2 := hidR (And.intro ((KA.out.1.below (Below.refl _ _).drew).step hq st) (And.intro (KA.out.2.1.blk (st.rest b (cell_lt a0) (by omega))) (And.intro ((KA.out.2.2.2.1.below (Below.refl _ _).drew).stepR st KA.out.2.2.2.2) R8))); clear st KA a0 a1 a2 r0 r1 f0 f1 c1 c2 c3 R8; obtain ⟨a0, a1, a2, _, _, _⟩ := K2.out.2.1; obtain ⟨r0, r1, f0, f1⟩ := K2.out.1.2.2.2.2.2; have c1 := K2.out.1.2.2.1; have c2 := K2.out.1.2.2.2.1; have c3 := K2.out.1.2.2.2.2.1) | (go_at_call 22; refine (same_rows ad2 ad1 cq2 cq1 ss (by omega) _ K2.out.2.2.2 K2.out.2.2.1).mono ?_; rintro r w3 ⟨rfl, hb3⟩; have K3 := hidR (And.intro (K2.out.1.1.below hb3) (And.intro (K2.out.1.2.2.2.2.2.below hb3) (And.intro (K2.out.2.1.below hb3) (And.intro (keepc hb3 K2.out.1.2.2.1) (And.intro (keepc hb3 K2.out.1.2.2.2.1) (keepc hb3 K2.out.1.2.2.2.2.1)))))); clear hb3 K2 a0 a1 a2 r0 r1 f0 f1 c1 c2 c3; obtain ⟨a0, a1, a2, _, _, _⟩ := K3.out.2.2.1; obtain ⟨r0, r1, f0, f1⟩ := K3.out.2.1; have c1 := K3.out.2.2.2.1; have c2 := K3.out.2.2.2.2.1; have c3 := K3.out.2.2.2.2.2))
  all_goals
    go_wp2
    refine bodyPost_ret (v := .tuple #[.agg #[.string q1, .int .i64 q2], .bool true]) (by simp [results, Try.results7, go_sem, *]) rfl ⟨rfl, K3.out.1.put2 (by omega) hq _ _⟩
end Go.Proofs.Ytccpbpajappckaa
