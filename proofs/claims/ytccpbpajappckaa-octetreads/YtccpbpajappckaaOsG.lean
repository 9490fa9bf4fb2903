/- Contracts of steeplelaw01.read over the seat's translation, kind by kind. -/
import Derived.Test.YtccpbpajappckaaOsF
import Derived.Test.YtccpbpajappckaaPOeC
namespace Go.Proofs.Ytccpbpajappckaa
open Go.RowKit

/-- What 'read' has laid: the reader, both arguments, the result. -/
structure Rk (W w : World) (q : Nat) (s : ByteArray) (e k m g l : Int) : Prop where
  st : Step q s e W w
  s0 : w.cell? ⟨W.heap.size, 0, none⟩ = some (.string s)
  s1 : w.cell? ⟨W.heap.size, 1, none⟩ = some (.int .i64 e)
  c0 : w.cell? ⟨W.heap.size + 1, 0, none⟩ = some (.int .i64 k)
  c1 : w.cell? ⟨W.heap.size + 1, 1, none⟩ = some (.int .i64 m)
  c2 : w.cell? ⟨W.heap.size + 1, 2, none⟩ = some (.int .i64 g)
  c3 : w.cell? ⟨W.heap.size + 1, 3, none⟩ = some (.int .i64 l)
  r : R2 w (W.heap.size + 1 + 1) (.string ⟨#[]⟩) (.int .i64 0)
theorem Rk.below {W w w' : World} {q : Nat} {s : ByteArray} {e k m g l : Int} (h : Rk W w q s e k m g l) (hb : Below w.heap.size w w') : Rk W w' q s e k m g l :=
  ⟨h.st.below hb, keepc hb h.s0, keepc hb h.s1, keepc hb h.c0, keepc hb h.c1, keepc hb h.c2, keepc hb h.c3, h.r.below hb⟩
theorem Step.keep {q : Nat} {t : ByteArray} {e : Int} {w w' : World} (h : Step q t e w w') {b o : Nat} {v : Value} (hc : w.cell? ⟨b, o, none⟩ = some v) (hn : b ≠ q) : w'.cell? ⟨b, o, none⟩ = some v := (World.cell?_of_block (h.rest b (cell_lt hc) hn)).trans hc
theorem Rk.step {W w w' : World} {q : Nat} {s s' : ByteArray} {e e' k m g l : Int} (h : Rk W w q s e k m g l) (hq : q < W.heap.size) (st : Step q s' e' w w') :
    Step q s' e' W w' ∧ w'.cell? ⟨W.heap.size + 1, 0, none⟩ = some (.int .i64 k) ∧ w'.cell? ⟨W.heap.size + 1, 1, none⟩ = some (.int .i64 m) ∧ w'.cell? ⟨W.heap.size + 1, 2, none⟩ = some (.int .i64 g) ∧ w'.cell? ⟨W.heap.size + 1, 3, none⟩ = some (.int .i64 l) ∧ R2 w' (W.heap.size + 1 + 1) (.string ⟨#[]⟩) (.int .i64 0) :=
  ⟨h.st.trans st, st.keep h.c0 (by omega), st.keep h.c1 (by omega), st.keep h.c2 (by omega), st.keep h.c3 (by omega), h.r.blk (st.rest _ (cell_lt h.r.c0) (by omega))⟩
theorem Step.put2 {q c : Nat} {s : ByteArray} {e : Int} {W w : World} (h : Step q s e W w) (hc : W.heap.size ≤ c) (hq : q < W.heap.size) (x y : Value) : Step q s e W ((w.setCell ⟨c, 0, none⟩ x).setCell ⟨c, 1, none⟩ y) := (h.put hc hq x).put hc hq y
theorem Rk.start (W : World) (q : Nat) (s : ByteArray) (e k m g l : Int) (h : Rd q s e W) : Rk W (((W.alloc (Obj.cells #[.string s, .int .i64 e] 27)).alloc (Obj.cells #[.int .i64 k, .int .i64 m, .int .i64 g, .int .i64 l] 31)).alloc (Obj.cells #[.string ⟨#[]⟩, .int .i64 0] 27)) q s e k m g l :=
  ⟨((Step.refl h).alloc _).alloc _ |>.alloc _, by simp [go_sem], by simp [go_sem], by simp [go_sem], by simp [go_sem], by simp [go_sem], by simp [go_sem], ⟨by simp [go_sem], by simp [go_sem], by simp [go_sem], by simp [go_sem]⟩⟩
set_option maxRecDepth 100000 in
set_option maxHeartbeats 8000000 in
theorem read_num (q : Nat) (s : ByteArray) (e m g l : Int) (W : World) (h : Rd q s e W) : Calls Try.prog 7 #[.pointer (some ⟨q, 0, none⟩), .agg #[.string s, .int .i64 e], .agg #[.int .i64 0, .int .i64 m, .int .i64 g, .int .i64 l]] W fun r w' => r = .returned (.tuple #[.agg #[.string (rdNum s e m).1, .int .i64 (rdNum s e m).2.1], .bool true]) ∧ Step q (rdNum s e m).1 (rdNum s e m).2.1 W w' := by
  have H1 := hidR (rR_num s e m)
  have H2 := hidR (fun w (hw : Rd q s e w) => rd_num q s e m w hw)
  generalize rdNum s e m = t at *
  obtain ⟨q1, q2, q3⟩ := t
  dsimp only at *
  have hq : q < W.heap.size := h.lt
  have KS := hidR (Rk.start W q s e 0 m g l h)
  clear h
  go_enter Try.func7, Try.ntmps7
  go_upto_region 1 with fail
  generalize (((W.alloc (Obj.cells #[.string s, .int .i64 e] 27)).alloc (Obj.cells #[.int .i64 0, .int .i64 m, .int .i64 g, .int .i64 l] 31)).alloc (Obj.cells #[.string ⟨#[]⟩, .int .i64 0] 27)) = w0 at *
  have s0 := KS.out.s0
  have s1 := KS.out.s1
  have c0 := KS.out.c0
  have c1 := KS.out.c1
  have c2 := KS.out.c2
  have c3 := KS.out.c3
  go_upto_region 4 with (go_at_call 25; refine (H1.out.go _).mono ?_; rintro r w1 ⟨rfl, hb1⟩; have K1 := hidR (KS.out.below hb1); clear hb1 KS s0 s1 c0 c1 c2 c3)
  have KA : Hid (Rk W (w1.alloc (Obj.cells #[.string q1, .int .i64 q2, .int .i64 q3] 60)) q s e 0 m g l ∧ R3 (w1.alloc (Obj.cells #[.string q1, .int .i64 q2, .int .i64 q3] 60)) w1.heap.size (.string q1) (.int .i64 q2) (.int .i64 q3) ∧ W.heap.size + 1 + 1 < w1.heap.size) := ⟨K1.out.below ((Below.refl _ _).alloc (Nat.le_refl _) _), R3.new _ _ _ _ _, cell_lt K1.out.r.c0⟩
  clear K1
  generalize (w1.alloc (Obj.cells #[.string q1, .int .i64 q2, .int .i64 q3] 60)) = Z at *
  generalize w1.heap.size = b at *
  have hb := KA.out.2.2
  have c1 := KA.out.1.c1
  obtain ⟨a0, a1, a2, _, _, _⟩ := KA.out.2.1
  obtain ⟨r0, r1, f0, f1⟩ := KA.out.1.r
  have n1 : ¬ W.heap.size + 1 + 1 = b := by omega
  have n2 : ¬ b = W.heap.size + 1 + 1 := by omega
  go_region_held3 (fun w => w.cell? ⟨b, 0, none⟩ = some (.string q1) ∧ w.cell? ⟨b, 1, none⟩ = some (.int .i64 q2) ∧ w.cell? ⟨b, 2, none⟩ = some (.int .i64 q3) ∧ w.cell? ⟨W.heap.size + 1, 1, none⟩ = some (.int .i64 m)) (first | (go_keep; done) | (exact ⟨by simp [go_sem, *], by simp [go_sem, *], by simp [go_sem, *], by simp [go_sem, *]⟩)) ((go_at_call 17; refine (H2.out _ (by first | exact KA.out.1.st.here | exact (KA.out.1.below (Below.refl _ _).drew).st.here)).mono ?_; rintro r w2 ⟨rfl, st⟩; have K2 := hidR (And.intro ((KA.out.1.below (Below.refl _ _).drew).step hq st) (KA.out.2.1.blk (st.rest b (cell_lt a0) (by omega)))); clear st KA a0 a1 a2 r0 r1 f0 f1 c1; obtain ⟨a0, a1, a2, _, _, _⟩ := K2.out.2; obtain ⟨r0, r1, f0, f1⟩ := K2.out.1.2.2.2.2.2; have c1 := K2.out.1.2.2.1))
  all_goals
    go_wp2
    refine bodyPost_ret (v := .tuple #[.agg #[.string q1, .int .i64 q2], .bool true]) (by simp [results, Try.results7, go_sem, *]) rfl ⟨rfl, K2.out.1.1.put2 (by omega) hq _ _⟩
set_option maxRecDepth 100000 in
set_option maxHeartbeats 8000000 in
theorem read_text1 (q : Nat) (s : ByteArray) (e m g l : Int) (q1 : ByteArray) (t : ByteArray) (ht : rdText s e m = (q1, 0, t)) (W : World) (h : Rd q s e W) : Calls Try.prog 7 #[.pointer (some ⟨q, 0, none⟩), .agg #[.string s, .int .i64 e], .agg #[.int .i64 1, .int .i64 m, .int .i64 g, .int .i64 l]] W fun r w' => r = .returned (.tuple #[.agg #[.string q1, .int .i64 0], .bool true]) ∧ Step q q1 0 W w' := by
  have H1 := hidR (fun w => rR_text s e m w)
  have H2 := hidR (fun w (hw : Rd q s e w) => rd_text q s e m w hw)
  rw [ht] at H1 H2
  dsimp only at H1 H2
  clear ht
  have hnil : (⟨#[]⟩ : ByteArray).toList = [] := by decide +kernel
  have hq : q < W.heap.size := h.lt
  have KS := hidR (Rk.start W q s e 1 m g l h)
  clear h
  go_enter Try.func7, Try.ntmps7
  go_upto_region 1 with fail
  generalize (((W.alloc (Obj.cells #[.string s, .int .i64 e] 27)).alloc (Obj.cells #[.int .i64 1, .int .i64 m, .int .i64 g, .int .i64 l] 31)).alloc (Obj.cells #[.string ⟨#[]⟩, .int .i64 0] 27)) = w0 at *
  have s0 := KS.out.s0
  have s1 := KS.out.s1
  have c0 := KS.out.c0
  have c1 := KS.out.c1
  have c2 := KS.out.c2
  have c3 := KS.out.c3
  go_upto_region 7 with (go_at_call 26; refine (H1.out _).mono ?_; rintro r w1 ⟨v, rfl, ho, hb1⟩; obtain ⟨g0, hg0, rfl, hc⟩ : ∃ g0, w0.heap.size ≤ g0 ∧ v = .slice (some ⟨g0, 0, none⟩) 1 1 ∧ w1.cell? ⟨g0, 0, none⟩ = some (.string t) := (by rcases ho with ⟨_, h⟩ | ⟨h, _⟩; exact h; exact absurd rfl h); have K1 : Hid (Rk W w1 q s e 1 m g l ∧ w1.cell? ⟨g0, 0, none⟩ = some (.string t) ∧ W.heap.size + 1 + 1 < g0) := ⟨KS.out.below hb1, hc, Nat.lt_of_lt_of_le (cell_lt KS.out.r.c0) hg0⟩; clear hb1 KS s0 s1 c0 c1 c2 c3 ho hc hg0)
  have KA : Hid (Rk W (w1.alloc (Obj.cells #[.string q1, .int .i64 0, .slice (some ⟨g0, 0, none⟩) 1 1] 63)) q s e 1 m g l ∧ R3 (w1.alloc (Obj.cells #[.string q1, .int .i64 0, .slice (some ⟨g0, 0, none⟩) 1 1] 63)) w1.heap.size (.string q1) (.int .i64 0) (.slice (some ⟨g0, 0, none⟩) 1 1) ∧ W.heap.size + 1 + 1 < w1.heap.size ∧ (w1.alloc (Obj.cells #[.string q1, .int .i64 0, .slice (some ⟨g0, 0, none⟩) 1 1] 63)).cell? ⟨g0, 0, none⟩ = some (.string t) ∧ W.heap.size + 1 + 1 < g0) := ⟨K1.out.1.below ((Below.refl _ _).alloc (Nat.le_refl _) _), R3.new _ _ _ _ _, cell_lt K1.out.1.r.c0, keepc ((Below.refl _ _).alloc (Nat.le_refl _) _) K1.out.2.1, K1.out.2.2⟩
  clear K1
  generalize (w1.alloc (Obj.cells #[.string q1, .int .i64 0, .slice (some ⟨g0, 0, none⟩) 1 1] 63)) = Z at *
  generalize w1.heap.size = b at *
  have hb := KA.out.2.2.1
  have gc : Z.cell? ⟨g0, 0, none⟩ = some (.string t) := KA.out.2.2.2.1
  have gn := KA.out.2.2.2.2
  have c1 := KA.out.1.c1
  obtain ⟨a0, a1, a2, _, _, _⟩ := KA.out.2.1
  obtain ⟨r0, r1, f0, f1⟩ := KA.out.1.r
  have n1 : ¬ W.heap.size + 1 + 1 = b := by omega
  have n2 : ¬ b = W.heap.size + 1 + 1 := by omega
  go_upto_region 10 with fail
  clear gc
  go_region_held3 (fun w => w.cell? ⟨b, 0, none⟩ = some (.string q1) ∧ w.cell? ⟨b, 1, none⟩ = some (.int .i64 0) ∧ w.cell? ⟨W.heap.size + 1, 1, none⟩ = some (.int .i64 m)) (first | (go_keep; done) | (exact ⟨by simp [go_sem, *], by simp [go_sem, *], by simp [go_sem, *]⟩)) ((go_at_call 20; refine (H2.out _ (by first | exact KA.out.1.st.here | exact (KA.out.1.below (Below.refl _ _).drew).st.here)).mono ?_; rintro r w2 ⟨rfl, st⟩; have K2 := hidR (And.intro ((KA.out.1.below (Below.refl _ _).drew).step hq st) (KA.out.2.1.blk (st.rest b (cell_lt a0) (by omega)))); clear st KA a0 a1 a2 r0 r1 f0 f1 c1; obtain ⟨a0, a1, a2, _, _, _⟩ := K2.out.2; obtain ⟨r0, r1, f0, f1⟩ := K2.out.1.2.2.2.2.2; have c1 := K2.out.1.2.2.1))
  all_goals
    go_wp2
    refine bodyPost_ret (v := .tuple #[.agg #[.string q1, .int .i64 0], .bool true]) (by simp [results, Try.results7, go_sem, *]) rfl ⟨rfl, K2.out.1.1.put2 (by omega) hq _ _⟩
set_option maxRecDepth 100000 in
set_option maxHeartbeats 8000000 in
theorem read_text0 (q : Nat) (s : ByteArray) (e m g l : Int) (q1 : ByteArray) (q2 : Int) (hq2 : q2 ≠ 0) (ht : rdText s e m = (q1, q2, ⟨#[]⟩)) (W : World) (h : Rd q s e W) : Calls Try.prog 7 #[.pointer (some ⟨q, 0, none⟩), .agg #[.string s, .int .i64 e], .agg #[.int .i64 1, .int .i64 m, .int .i64 g, .int .i64 l]] W fun r w' => r = .returned (.tuple #[.agg #[.string q1, .int .i64 q2], .bool true]) ∧ Step q q1 q2 W w' := by
  have H1 := hidR (fun w => rR_text s e m w)
  have H2 := hidR (fun w (hw : Rd q s e w) => rd_text q s e m w hw)
  rw [ht] at H1 H2
  dsimp only at H1 H2
  clear ht
  have hnil : (⟨#[]⟩ : ByteArray).toList = [] := by decide +kernel
  have hq : q < W.heap.size := h.lt
  have KS := hidR (Rk.start W q s e 1 m g l h)
  clear h
  go_enter Try.func7, Try.ntmps7
  go_upto_region 1 with fail
  generalize (((W.alloc (Obj.cells #[.string s, .int .i64 e] 27)).alloc (Obj.cells #[.int .i64 1, .int .i64 m, .int .i64 g, .int .i64 l] 31)).alloc (Obj.cells #[.string ⟨#[]⟩, .int .i64 0] 27)) = w0 at *
  have s0 := KS.out.s0
  have s1 := KS.out.s1
  have c0 := KS.out.c0
  have c1 := KS.out.c1
  have c2 := KS.out.c2
  have c3 := KS.out.c3
  go_upto_region 7 with (go_at_call 26; refine (H1.out _).mono ?_; rintro r w1 ⟨v, rfl, ho, hb1⟩; obtain rfl : v = .slice none 0 0 := (by rcases ho with ⟨h, _⟩ | ⟨_, h⟩; exact absurd h hq2; exact h); have K1 : Hid (Rk W w1 q s e 1 m g l) := KS.out.below hb1; clear hb1 KS s0 s1 c0 c1 c2 c3 ho)
  have KA : Hid (Rk W (w1.alloc (Obj.cells #[.string q1, .int .i64 q2, .slice none 0 0] 63)) q s e 1 m g l ∧ R3 (w1.alloc (Obj.cells #[.string q1, .int .i64 q2, .slice none 0 0] 63)) w1.heap.size (.string q1) (.int .i64 q2) (.slice none 0 0) ∧ W.heap.size + 1 + 1 < w1.heap.size) := ⟨K1.out.below ((Below.refl _ _).alloc (Nat.le_refl _) _), R3.new _ _ _ _ _, cell_lt K1.out.r.c0⟩
  clear K1
  generalize (w1.alloc (Obj.cells #[.string q1, .int .i64 q2, .slice none 0 0] 63)) = Z at *
  generalize w1.heap.size = b at *
  have hb := KA.out.2.2
  have c1 := KA.out.1.c1
  obtain ⟨a0, a1, a2, _, _, _⟩ := KA.out.2.1
  obtain ⟨r0, r1, f0, f1⟩ := KA.out.1.r
  have n1 : ¬ W.heap.size + 1 + 1 = b := by omega
  have n2 : ¬ b = W.heap.size + 1 + 1 := by omega
  go_upto_region 10 with fail
  skip
  go_region_held3 (fun w => w.cell? ⟨b, 0, none⟩ = some (.string q1) ∧ w.cell? ⟨b, 1, none⟩ = some (.int .i64 q2) ∧ w.cell? ⟨W.heap.size + 1, 1, none⟩ = some (.int .i64 m)) (first | (go_keep; done) | (exact ⟨by simp [go_sem, *], by simp [go_sem, *], by simp [go_sem, *]⟩)) ((go_at_call 20; refine (H2.out _ (by first | exact KA.out.1.st.here | exact (KA.out.1.below (Below.refl _ _).drew).st.here)).mono ?_; rintro r w2 ⟨rfl, st⟩; have K2 := hidR (And.intro ((KA.out.1.below (Below.refl _ _).drew).step hq st) (KA.out.2.1.blk (st.rest b (cell_lt a0) (by omega)))); clear st KA a0 a1 a2 r0 r1 f0 f1 c1; obtain ⟨a0, a1, a2, _, _, _⟩ := K2.out.2; obtain ⟨r0, r1, f0, f1⟩ := K2.out.1.2.2.2.2.2; have c1 := K2.out.1.2.2.1))
  all_goals
    go_wp2
    refine bodyPost_ret (v := .tuple #[.agg #[.string q1, .int .i64 q2], .bool true]) (by simp [results, Try.results7, go_sem, *]) rfl ⟨rfl, K2.out.1.1.put2 (by omega) hq _ _⟩
end Go.Proofs.Ytccpbpajappckaa
