/- The contract of the document's reader's Elems over the seat's translation. -/
import Derived.Test.YtccpbpajappckaaOsE
namespace Go.Proofs.Ytccpbpajappckaa
open Go.RowKit

theorem info_rE : ∃ i, Try.prog.info? 69 = some i ∧ i.zero = some (.agg #[.int .u64 0, .int .u64 0]) ∧ i.size = 2 ∧ i.bytes = 16 := by
  have h : (Try.prog.info? 69).map (fun i => (i.zero, i.size, i.bytes)) = some (some (.agg #[.int .u64 0, .int .u64 0]), 2, 16) := by kernel_rfl
  obtain ⟨i, hi, he⟩ := Option.map_eq_some_iff.1 h
  simp only [Prod.mk.injEq] at he
  exact ⟨i, hi, he.1, he.2.1, he.2.2⟩
/-- A slice of elements, or none. -/
def ElR (w : World) (v : Value) : Option (List (Nat × Nat)) → Prop
  | none => v = .slice none 0 0
  | some es => ∃ a cap, v = .slice a es.length cap ∧ ERow w a es
theorem ERow.set3E {w : World} {a : Option Addr} {es : List (Nat × Nat)} {c : Nat} (h : ERow w a es) (hn : ∀ g off, a = some ⟨g, off, none⟩ → g ≠ c) (x y z : Value) : ERow (((w.setCell ⟨c, 0, none⟩ x).setCell ⟨c, 1, none⟩ y).setCell ⟨c, 2, none⟩ z) a es := ⟨fun i hi => by
  obtain ⟨b, off, e1, e2, e3, e4⟩ := h.cells i hi
  have hk : (((w.setCell ⟨c, 0, none⟩ x).setCell ⟨c, 1, none⟩ y).setCell ⟨c, 2, none⟩ z).heap[b]? = w.heap[b]? := ((Below.heap_setCell _ _ _ _ (hn b off e1)).trans (Below.heap_setCell _ _ _ _ (hn b off e1))).trans (Below.heap_setCell _ _ _ _ (hn b off e1))
  exact ⟨b, off, e1, by simpa [World.setCell] using e2, (World.cell?_of_block hk).trans e3, (World.cell?_of_block hk).trans e4⟩⟩
set_option maxRecDepth 100000 in
set_option maxHeartbeats 4000000 in
theorem rR_elems_lev (s : ByteArray) (l m : Int) (hw : wideI l = 0) : Ret 30 #[.agg #[.string s, .int .i64 0], .int .i64 l, .int .i64 m] (.agg #[.string ⟨#[]⟩, .int .i64 1, .slice none 0 0]) := by
  intro W
  have HW := hidR (rwide l)
  rw [hw] at HW
  go_enter Try.func30, Try.ntmps30
  go_wp2_with ((go_at_call 43; refine (HW.out _).mono ?_; rintro e w0 ⟨rfl, hb0⟩; have WB0 : Hid (R3 w0 (W.heap.size + 1) (.string ⟨#[]⟩) (.int .i64 0) (.slice none 0 0) ∧ Below W.heap.size W w0) := ⟨R3.below ⟨by simp [go_sem], by simp [go_sem], by simp [go_sem], by simp [go_sem], by simp [go_sem], by simp [go_sem]⟩ hb0, (((Below.refl _ _).alloc (Nat.le_refl _) _).alloc (by simp) _).trans (hb0.mono (by simp; omega))⟩; have g0 : w0.cell? ⟨W.heap.size, 0, none⟩ = some (.string s) := keepc hb0 (by simp [go_sem]); have g1 : w0.cell? ⟨W.heap.size, 1, none⟩ = some (.int .i64 0) := keepc hb0 (by simp [go_sem]); clear hb0); obtain ⟨a0, a1, a2, f0, f1, f2⟩ := WB0.out.1)
  refine bodyPost_ret (v := .agg #[.string ⟨#[]⟩, .int .i64 1, .slice none 0 0]) (by simp [results, Try.results30, go_sem, *]) rfl ⟨rfl, below3 WB0.out.2 (Nat.le_succ _) _ _ _⟩
set_option maxRecDepth 100000 in
set_option maxHeartbeats 4000000 in
theorem rR_elems_none (s : ByteArray) (l m : Int) (hw : wideI l ≠ 0) (q1 : ByteArray) (q2 : Int) (N : Nat) (hN : rdNum s 0 m = (q1, q2, (N : Int))) (h2 : q2 ≠ 0) : Ret 30 #[.agg #[.string s, .int .i64 0], .int .i64 l, .int .i64 m] (.agg #[.string q1, .int .i64 q2, .slice none 0 0]) := by
  intro W
  have HW := hidR (rwide l)
  have HN := hidR (rR_num s 0 m)
  rw [hN] at HN
  dsimp only at HN
  have hq' : (q2 == 0) = false := by rw [beq_eq_false_iff_ne]; exact h2
  have hw' : (wideI l == 0) = false := by rw [beq_eq_false_iff_ne]; exact hw
  generalize wideI l = wl at *
  clear hN
  go_enter Try.func30, Try.ntmps30
  go_wp2_with (first | (go_at_call 43; refine (HW.out _).mono ?_; rintro e w0 ⟨rfl, hb0⟩; have WB0 : Hid (R3 w0 (W.heap.size + 1) (.string ⟨#[]⟩) (.int .i64 0) (.slice none 0 0) ∧ Below W.heap.size W w0) := ⟨R3.below ⟨by simp [go_sem], by simp [go_sem], by simp [go_sem], by simp [go_sem], by simp [go_sem], by simp [go_sem]⟩ hb0, (((Below.refl _ _).alloc (Nat.le_refl _) _).alloc (by simp) _).trans (hb0.mono (by simp; omega))⟩; have g0 : w0.cell? ⟨W.heap.size, 0, none⟩ = some (.string s) := keepc hb0 (by simp [go_sem]); have g1 : w0.cell? ⟨W.heap.size, 1, none⟩ = some (.int .i64 0) := keepc hb0 (by simp [go_sem]); clear hb0) | (go_at_call 25; refine (HN.out.go _).mono ?_; rintro e w1 ⟨rfl, hb1⟩; have K1 : Hid (R3 w1 (W.heap.size + 1) (.string ⟨#[]⟩) (.int .i64 0) (.slice none 0 0) ∧ Below W.heap.size W w1) := ⟨WB0.out.1.below hb1, WB0.out.2.trans (hb1.mono WB0.out.2.size)⟩; clear hb1 g0 g1 WB0))
  have KZ : Hid (Lw W ((w1.alloc (Obj.cells #[.string q1, .int .i64 q2, .int .i64 (N : Int)] 60)).alloc (Obj.cells #[.string q1, .int .i64 q2] 27)) w1.heap.size N q1 q2 ∧ W.heap.size + 1 < w1.heap.size) := by
    have bz : Below w1.heap.size w1 ((w1.alloc (Obj.cells #[.string q1, .int .i64 q2, .int .i64 (N : Int)] 60)).alloc (Obj.cells #[.string q1, .int .i64 q2] 27)) := ((Below.refl _ _).alloc (Nat.le_refl _) _).alloc (by simp) _
    exact ⟨⟨by simp [go_sem], ⟨by simp [go_sem], by simp [go_sem], by simp [go_sem], by simp [go_sem]⟩, K1.out.1.below bz, K1.out.2.trans (bz.mono K1.out.2.size)⟩, cell_lt K1.out.1.c0⟩
  clear K1
  generalize ((w1.alloc (Obj.cells #[.string q1, .int .i64 q2, .int .i64 (N : Int)] 60)).alloc (Obj.cells #[.string q1, .int .i64 q2] 27)) = w2 at *
  generalize w1.heap.size = b at *
  have hbW := KZ.out.2
  go_loopw [9, 10] (fun l' u wr => l' = .slice none 0 0 ∧ u = .int .i64 0 ∧ Hid (Lw W wr b N q1 q2)) (fun _ _ _ => 0)
  case atStart => exact ⟨rfl, rfl, KZ.out.1⟩
  case round =>
    clear KZ
    obtain ⟨rfl, rfl, HK⟩ := hrel
    obtain ⟨x0, x1, t0, t1⟩ := HK.out.x
    have ln := HK.out.n
    obtain ⟨a0, a1, a2, f0, f1, f2⟩ := HK.out.r
    go_wp2
    all_goals
      refine bodyPost_ret (v := .agg #[.string q1, .int .i64 q2, .slice none 0 0]) (by simp [results, Try.results30, go_sem, *]) rfl ⟨rfl, below3 HK.out.d (Nat.le_succ _) _ _ _⟩
set_option maxRecDepth 100000 in
set_option maxHeartbeats 4000000 in
theorem rR_elems_err (s : ByteArray) (e l m : Int) (he : e ≠ 0) : Ret 30 #[.agg #[.string s, .int .i64 e], .int .i64 l, .int .i64 m] (.agg #[.string s, .int .i64 e, .slice none 0 0]) := by
  intro W
  have HN := hidR (rR_num s e m)
  have hN : rdNum s e m = (s, e, 0) := by unfold rdNum; rw [if_neg he]
  rw [hN] at HN
  dsimp only at HN
  obtain ⟨q1, rfl⟩ : ∃ q1, q1 = s := ⟨_, rfl⟩
  obtain ⟨q2, rfl⟩ : ∃ q2, q2 = e := ⟨_, rfl⟩
  obtain ⟨N, hN0⟩ : ∃ N : Nat, N = 0 := ⟨_, rfl⟩
  rw [show (0 : Int) = (N : Int) by rw [hN0]; rfl] at HN
  have hq' : (q2 == 0) = false := by rw [beq_eq_false_iff_ne]; exact he
  clear hN hN0
  go_enter Try.func30, Try.ntmps30
  go_wp2_with (go_at_call 25; refine (HN.out.go _).mono ?_; rintro e w1 ⟨rfl, hb1⟩; have K1 : Hid (R3 w1 (W.heap.size + 1) (.string ⟨#[]⟩) (.int .i64 0) (.slice none 0 0) ∧ Below W.heap.size W w1) := ⟨R3.below ⟨by simp [go_sem], by simp [go_sem], by simp [go_sem], by simp [go_sem], by simp [go_sem], by simp [go_sem]⟩ hb1, (((Below.refl _ _).alloc (Nat.le_refl _) _).alloc (by simp) _).trans (hb1.mono (by simp; omega))⟩; clear hb1)
  have KZ : Hid (Lw W ((w1.alloc (Obj.cells #[.string q1, .int .i64 q2, .int .i64 (N : Int)] 60)).alloc (Obj.cells #[.string q1, .int .i64 q2] 27)) w1.heap.size N q1 q2 ∧ W.heap.size + 1 < w1.heap.size) := by
    have bz : Below w1.heap.size w1 ((w1.alloc (Obj.cells #[.string q1, .int .i64 q2, .int .i64 (N : Int)] 60)).alloc (Obj.cells #[.string q1, .int .i64 q2] 27)) := ((Below.refl _ _).alloc (Nat.le_refl _) _).alloc (by simp) _
    exact ⟨⟨by simp [go_sem], ⟨by simp [go_sem], by simp [go_sem], by simp [go_sem], by simp [go_sem]⟩, K1.out.1.below bz, K1.out.2.trans (bz.mono K1.out.2.size)⟩, cell_lt K1.out.1.c0⟩
  clear K1
  generalize ((w1.alloc (Obj.cells #[.string q1, .int .i64 q2, .int .i64 (N : Int)] 60)).alloc (Obj.cells #[.string q1, .int .i64 q2] 27)) = w2 at *
  generalize w1.heap.size = b at *
  have hbW := KZ.out.2
  go_loopw [9, 10] (fun l' u wr => l' = .slice none 0 0 ∧ u = .int .i64 0 ∧ Hid (Lw W wr b N q1 q2)) (fun _ _ _ => 0)
  case atStart => exact ⟨rfl, rfl, KZ.out.1⟩
  case round =>
    clear KZ
    obtain ⟨rfl, rfl, HK⟩ := hrel
    obtain ⟨x0, x1, t0, t1⟩ := HK.out.x
    have ln := HK.out.n
    obtain ⟨a0, a1, a2, f0, f1, f2⟩ := HK.out.r
    go_wp2
    all_goals
      refine bodyPost_ret (v := .agg #[.string q1, .int .i64 q2, .slice none 0 0]) (by simp [results, Try.results30, go_sem, *]) rfl ⟨rfl, below3 HK.out.d (Nat.le_succ _) _ _ _⟩
set_option maxRecDepth 100000 in
set_option maxHeartbeats 8000000 in
theorem rR_elems_loop (s : ByteArray) (l m : Int) (hw : wideI l ≠ 0) (q1 : ByteArray) (N : Nat) (hN : rdNum s 0 m = (q1, 0, (N : Int))) (hN9 : (N : Int) ≤ 2147483647) (Ra : ByteArray) (Rb : Int) (Rc : Option (List (Nat × Nat))) (HQ : Hid (rdElms l (N - 0) q1 [] = (Ra, Rb, Rc))) (W : World) : Calls Try.prog 30 #[.agg #[.string s, .int .i64 0], .int .i64 l, .int .i64 m] W fun r w' => ∃ v, r = .returned (.agg #[.string Ra, .int .i64 Rb, v]) ∧ (ElR w' v Rc ∧ ∀ g, v.ownBlock = some g → W.heap.size ≤ g) ∧ Below W.heap.size W w' := by
  have HW := hidR (rwide l)
  have HN := hidR (rR_num s 0 m)
  rw [hN] at HN
  dsimp only at HN
  have hw' : (wideI l == 0) = false := by rw [beq_eq_false_iff_ne]; exact hw
  obtain ⟨i0, hi0, hz0, hz1, hz2⟩ := info_rE
  have HI : Hid (Try.prog.info? 69 = some i0 ∧ i0.zero = some (.agg #[.int .u64 0, .int .u64 0]) ∧ i0.size = 2 ∧ i0.bytes = 16) := ⟨hi0, hz0, hz1, hz2⟩
  clear hi0 hz0 hz1 hz2 hN
  generalize wideI l = wl at *
  go_enter Try.func30, Try.ntmps30
  go_wp2_with (first | (go_at_call 43; refine (HW.out _).mono ?_; rintro e w0 ⟨rfl, hb0⟩; have WB0 : Hid (R3 w0 (W.heap.size + 1) (.string ⟨#[]⟩) (.int .i64 0) (.slice none 0 0) ∧ Below W.heap.size W w0) := ⟨R3.below ⟨by simp [go_sem], by simp [go_sem], by simp [go_sem], by simp [go_sem], by simp [go_sem], by simp [go_sem]⟩ hb0, (((Below.refl _ _).alloc (Nat.le_refl _) _).alloc (by simp) _).trans (hb0.mono (by simp; omega))⟩; have g0 : w0.cell? ⟨W.heap.size, 0, none⟩ = some (.string s) := keepc hb0 (by simp [go_sem]); have g1 : w0.cell? ⟨W.heap.size, 1, none⟩ = some (.int .i64 0) := keepc hb0 (by simp [go_sem]); clear hb0) | (go_at_call 25; refine (HN.out.go _).mono ?_; rintro e w1 ⟨rfl, hb1⟩; have K1 : Hid (R3 w1 (W.heap.size + 1) (.string ⟨#[]⟩) (.int .i64 0) (.slice none 0 0) ∧ Below W.heap.size W w1) := ⟨WB0.out.1.below hb1, WB0.out.2.trans (hb1.mono WB0.out.2.size)⟩; clear hb1 g0 g1 WB0))
  have KZ : Hid (Lw W ((w1.alloc (Obj.cells #[.string q1, .int .i64 0, .int .i64 (N : Int)] 60)).alloc (Obj.cells #[.string q1, .int .i64 0] 27)) w1.heap.size N q1 0 ∧ W.heap.size + 1 < w1.heap.size) := by
    have bz : Below w1.heap.size w1 ((w1.alloc (Obj.cells #[.string q1, .int .i64 0, .int .i64 (N : Int)] 60)).alloc (Obj.cells #[.string q1, .int .i64 0] 27)) := ((Below.refl _ _).alloc (Nat.le_refl _) _).alloc (by simp) _
    exact ⟨⟨by simp [go_sem], ⟨by simp [go_sem], by simp [go_sem], by simp [go_sem], by simp [go_sem]⟩, K1.out.1.below bz, K1.out.2.trans (bz.mono K1.out.2.size)⟩, cell_lt K1.out.1.c0⟩
  clear K1
  generalize ((w1.alloc (Obj.cells #[.string q1, .int .i64 0, .int .i64 (N : Int)] 60)).alloc (Obj.cells #[.string q1, .int .i64 0] 27)) = w2 at *
  generalize w1.heap.size = b at *
  have hbW := KZ.out.2
  go_loopw [9, 10] (fun l' u wr => (∃ (k : Nat) (s' : ByteArray) (acc : List (Nat × Nat)), k ≤ N ∧ u = .int .i64 k ∧ Hid (rdElms l (N - k) s' acc = (Ra, Rb, Rc)) ∧ Hid (acc.length = k ∧ wr.ownsRow (b + 1 + 1) 69 2 l' k (flat acc) ∧ Lw W wr b N s' 0 ∧ b + 1 < wr.heap.size)) ∨ (∃ k : Nat, k ≤ N ∧ u = .int .i64 k ∧ Hid (Rb ≠ 0 ∧ Rc = none ∧ Lw W wr b N Ra Rb))) (fun _ u _ => N - (intOf u).toNat)
  case atStart => exact .inl ⟨0, q1, [], Nat.zero_le _, rfl, HQ.out, ⟨rfl, ⟨by simp [flat], .inl ⟨rfl, rfl⟩⟩, KZ.out.1, cell_lt KZ.out.1.x.c0⟩⟩
  case round =>
    clear KZ
    rcases hrel with ⟨k, s', acc, hk, rfl, HD, HK⟩ | ⟨k, hk, rfl, HK⟩
    · have ln := HK.out.2.2.1.n
      obtain ⟨x0, x1, t0, t1⟩ := HK.out.2.2.1.x
      by_cases hlt : k < N
      · have k1 : (k : Int) < (N : Int) := by omega
        have H3 := hidR (fun w => rR_elem s' 0 l w)
        have HS : Hid ((if (rdElem s' 0 l).2.1 = 0 then rdElms l (N - (k + 1)) (rdElem s' 0 l).1 (acc ++ [(rdElem s' 0 l).2.2]) else ((rdElem s' 0 l).1, (rdElem s' 0 l).2.1, none)) = (Ra, Rb, Rc)) := by
          show _ = _
          rw [← HD.out, show N - k = (N - (k + 1)) + 1 by omega]
          rfl
        clear HD
        generalize rdElem s' 0 l = y at *
        obtain ⟨y1, y2, y3⟩ := y
        dsimp only at *
        by_cases hy : y2 = 0
        · subst hy
          rw [if_pos rfl] at HS
          go_upto_region 10 with (go_at_call 28; refine (H3.out _).mono ?_; rintro r w3 ⟨v, rfl, ho, hb3⟩; obtain ⟨g, hg9, rfl, hc⟩ : ∃ g, wr.heap.size ≤ g ∧ v = .slice (some ⟨g, 0, none⟩) 1 1 ∧ El w3 g y3.1 y3.2 := (by rcases ho with ⟨_, h⟩ | ⟨h, _⟩; exact h; exact absurd rfl h); have K3 : Hid (w3.ownsRow (b + 1 + 1) 69 2 u9 k (flat acc) ∧ Lw W w3 b N s' 0 ∧ b + 1 < w3.heap.size ∧ El w3 g y3.1 y3.2 ∧ acc.length = k ∧ b + 1 < g) := ⟨own_below HK.out.2.1 hb3, HK.out.2.2.1.below hb3, Nat.lt_of_lt_of_le HK.out.2.2.2 hb3.size, hc, HK.out.1, Nat.lt_of_lt_of_le HK.out.2.2.2 hg9⟩; clear hb3 HK x0 x1 t0 t1 ln ho hc hg9)
          have KA : Hid ((w3.alloc (Obj.cells #[.string y1, .int .i64 0, .slice (some ⟨g, 0, none⟩) 1 1] 67)).ownsRow (b + 1 + 1) 69 2 u9 k (flat acc) ∧ Lw W (w3.alloc (Obj.cells #[.string y1, .int .i64 0, .slice (some ⟨g, 0, none⟩) 1 1] 67)) b N s' 0 ∧ b + 1 < w3.heap.size ∧ El (w3.alloc (Obj.cells #[.string y1, .int .i64 0, .slice (some ⟨g, 0, none⟩) 1 1] 67)) g y3.1 y3.2 ∧ R3 (w3.alloc (Obj.cells #[.string y1, .int .i64 0, .slice (some ⟨g, 0, none⟩) 1 1] 67)) w3.heap.size (.string y1) (.int .i64 0) (.slice (some ⟨g, 0, none⟩) 1 1) ∧ g < w3.heap.size ∧ acc.length = k ∧ b + 1 < g) := ⟨own_below K3.out.1 ((Below.refl _ _).alloc (Nat.le_refl _) _), K3.out.2.1.below ((Below.refl _ _).alloc (Nat.le_refl _) _), K3.out.2.2.1, K3.out.2.2.2.1.below ((Below.refl _ _).alloc (Nat.le_refl _) _), R3.new _ _ _ _ _, cell_lt K3.out.2.2.2.1.hi, K3.out.2.2.2.2⟩
          clear K3
          generalize (w3.alloc (Obj.cells #[.string y1, .int .i64 0, .slice (some ⟨g, 0, none⟩) 1 1] 67)) = Z at *
          generalize w3.heap.size = b3 at *
          obtain ⟨x0, x1, t0, t1⟩ := KA.out.2.1.x
          obtain ⟨r0, r1, r2, _, _, _⟩ := KA.out.2.2.2.2.1
          go_upto_region 12 with fail
          have hk : ∀ i, i ≠ b + 1 → ((Z.setCell ⟨b + 1, 0, none⟩ (.string y1)).setCell ⟨b + 1, 1, none⟩ (.int .i64 0)).heap[i]? = Z.heap[i]? := fun i hi => (Below.heap_setCell _ _ _ _ hi).trans (Below.heap_setCell _ _ _ _ hi)
          have hbg := KA.out.2.2.2.2.2.2.2
          have hb3 := KA.out.2.2.1
          have KP : Hid (((Z.setCell ⟨b + 1, 0, none⟩ (.string y1)).setCell ⟨b + 1, 1, none⟩ (.int .i64 0)).ownsRow (b + 1 + 1) 69 2 u9 k (flat acc) ∧ Lw W ((Z.setCell ⟨b + 1, 0, none⟩ (.string y1)).setCell ⟨b + 1, 1, none⟩ (.int .i64 0)) b N y1 0 ∧ El ((Z.setCell ⟨b + 1, 0, none⟩ (.string y1)).setCell ⟨b + 1, 1, none⟩ (.int .i64 0)) g y3.1 y3.2 ∧ ((Z.setCell ⟨b + 1, 0, none⟩ (.string y1)).setCell ⟨b + 1, 1, none⟩ (.int .i64 0)).cell? ⟨b3, 2, none⟩ = some (.slice (some ⟨g, 0, none⟩) 1 1) ∧ b + 1 + 1 ≤ ((Z.setCell ⟨b + 1, 0, none⟩ (.string y1)).setCell ⟨b + 1, 1, none⟩ (.int .i64 0)).heap.size) := ⟨own_blkO KA.out.1 fun i hi _ => hk i (by omega), KA.out.2.1.put hbW _ _, ⟨(World.cell?_of_block (hk g (by omega))).trans KA.out.2.2.2.1.hi, (World.cell?_of_block (hk g (by omega))).trans KA.out.2.2.2.1.lo⟩, (World.cell?_of_block (hk b3 (by omega))).trans r2, by have := cell_lt KA.out.2.1.x.c0; simp [World.setCell]; omega⟩
          have hal := KA.out.2.2.2.2.2.2.1
          clear KA x0 x1 t0 t1 r0 r1 r2 hk
          generalize ((Z.setCell ⟨b + 1, 0, none⟩ (.string y1)).setCell ⟨b + 1, 1, none⟩ (.int .i64 0)) = Y at *
          obtain ⟨y3h, y3l⟩ := KP.out.2.2.1
          have ysl := KP.out.2.2.2.1
          go_wp2_with (at_builtin; refine wpList_append_own _ rfl _ _ 50 rfl (b + 1 + 1) 69 i0 (.agg #[.int .u64 0, .int .u64 0]) 2 16 Try.underlying50 HI.out.1 HI.out.2.1 HI.out.2.2.1 HI.out.2.2.2 rfl (by decide) _ _ _ rfl (own_below KP.out.1 ((Below.refl _ _).alloc (Nat.le_refl _) _)) ⟨Y.heap.size, 0, none⟩ 1 1 [.int .u64 (y3.1 : Nat), .int .u64 (y3.2 : Nat)] rfl rfl (fun p u hu => by rcases p with _ | _ | p <;> simp at hu <;> subst hu <;> simp [go_sem]) (by intro u hu; simp at hu; rcases hu with rfl | rfl <;> rfl) (by simp only [maxLen]; omega) (by omega) (by have := KP.out.2.2.2.2; simp; omega) ?_; intro v' w7 hown7 hgr7 _; have K7 : Hid (Lw W w7 b N y1 0 ∧ b + 1 < w7.heap.size) := ⟨(KP.out.2.1.below ((Below.refl _ _).alloc (Nat.le_refl _) _)).grown hgr7 (fun i hi => by have := (KP.out.1.lt i hi).1; omega) hbW, by have := hgr7.size; simp at this; have := KP.out.2.2.2.2; omega⟩; clear KP y3h y3l ysl)
          exact ⟨.inl ⟨k + 1, y1, acc ++ [y3], hlt, by simp, HS, ⟨by rw [List.length_append, hal]; rfl, by rw [flatE_end]; exact hown7, K7.out.1, K7.out.2⟩⟩, by simp [intOf]; omega⟩
        · rw [if_neg hy] at HS
          have hy' : (y2 == 0) = false := by rw [beq_eq_false_iff_ne]; exact hy
          go_upto_region 10 with (go_at_call 28; refine (H3.out _).mono ?_; rintro r w3 ⟨v, rfl, ho, hb3⟩; obtain rfl : v = .slice none 0 0 := (by rcases ho with ⟨h, _⟩ | ⟨_, h⟩; exact absurd h hy; exact h); have K3 : Hid (Lw W w3 b N s' 0) := HK.out.2.2.1.below hb3; clear hb3 HK x0 x1 t0 t1 ln ho)
          have KA : Hid (Lw W (w3.alloc (Obj.cells #[.string y1, .int .i64 y2, .slice none 0 0] 67)) b N s' 0 ∧ R3 (w3.alloc (Obj.cells #[.string y1, .int .i64 y2, .slice none 0 0] 67)) w3.heap.size (.string y1) (.int .i64 y2) (.slice none 0 0)) := ⟨K3.out.below ((Below.refl _ _).alloc (Nat.le_refl _) _), R3.new _ _ _ _ _⟩
          clear K3
          generalize (w3.alloc (Obj.cells #[.string y1, .int .i64 y2, .slice none 0 0] 67)) = Z at *
          generalize w3.heap.size = b3 at *
          obtain ⟨x0, x1, t0, t1⟩ := KA.out.1.x
          obtain ⟨r0, r1, r2, _, _, _⟩ := KA.out.2
          have HS1 : Hid (Ra = y1 ∧ Rb = y2 ∧ Rc = none) := by
            have := HS.out
            injection this with e1 e2; injection e2 with e2 e3
            exact ⟨e1.symm, e2.symm, e3.symm⟩
          go_wp2
          exact ⟨.inr ⟨k + 1, hlt, by simp, ⟨by rw [HS1.out.2.1]; exact hy, HS1.out.2.2, by rw [HS1.out.1, HS1.out.2.1]; exact KA.out.1.put hbW _ _⟩⟩, by simp [intOf]; omega⟩
      · obtain rfl : k = N := by omega
        have HD2 : Hid (Ra = s' ∧ Rb = 0 ∧ Rc = some acc) := by
          have := HD.out
          rw [Nat.sub_self] at this
          injection this with e1 e2; injection e2 with e2 e3
          exact ⟨e1.symm, e2.symm, e3.symm⟩
        have hlt9 : ∀ g, u9.ownBlock = some g → b + 1 + 1 ≤ g := fun g hg => (HK.out.2.1.lt g hg).1
        have hHK := HK.out.2.1
        have hac := HK.out.1
        rw [← hac] at hHK
        obtain ⟨a', cap', rfl, hsr⟩ := own_row hHK
        have KE : Hid (ERow wr a' acc ∧ Lw W wr b k s' 0 ∧ ∀ g off, a' = some ⟨g, off, none⟩ → g ≠ W.heap.size + 1) := ⟨hsr, HK.out.2.2.1, fun g off e => by have := hlt9 g (by rw [e]; rfl); omega⟩
        have HAC := hidR hac
        have HFR : Hid (∀ g, (Value.slice a' acc.length cap').ownBlock = some g → W.heap.size ≤ g) := fun g hg => by have := hlt9 g hg; omega
        clear HD HK hsr hHK hlt9 hac
        obtain ⟨a0, a1, a2, f0, f1, f2⟩ := KE.out.2.1.r
        go_wp2
        obtain ⟨rfl, rfl, rfl⟩ := HD2.out
        refine bodyPost_ret (v := .agg #[.string Ra, .int .i64 0, .slice a' acc.length cap']) (by simp [results, Try.results30, go_sem, *]) rfl ⟨.slice a' acc.length cap', rfl, ⟨⟨a', cap', rfl, KE.out.1.set3E KE.out.2.2 _ _ _⟩, HFR.out⟩, below3 KE.out.2.1.d (Nat.le_succ _) _ _ _⟩
    · obtain ⟨x0, x1, t0, t1⟩ := HK.out.2.2.x
      have ln := HK.out.2.2.n
      obtain ⟨a0, a1, a2, f0, f1, f2⟩ := HK.out.2.2.r
      have hr := HK.out.1
      have hr' : (Rb == 0) = false := by rw [beq_eq_false_iff_ne]; exact hr
      go_wp2
      all_goals
        refine bodyPost_ret (v := .agg #[.string Ra, .int .i64 Rb, .slice none 0 0]) (by simp [results, Try.results30, go_sem, *]) rfl ⟨.slice none 0 0, rfl, ⟨by rw [HK.out.2.1]; rfl, fun g e => by cases e⟩, below3 HK.out.2.2.d (Nat.le_succ _) _ _ _⟩
theorem rR_elems (s : ByteArray) (e l m : Int) (W : World) : Calls Try.prog 30 #[.agg #[.string s, .int .i64 e], .int .i64 l, .int .i64 m] W fun r w' => ∃ v, r = .returned (.agg #[.string (rdElems s e l m).1, .int .i64 (rdElems s e l m).2.1, v]) ∧ (ElR w' v (rdElems s e l m).2.2 ∧ ∀ g, v.ownBlock = some g → W.heap.size ≤ g) ∧ Below W.heap.size W w' := by
  by_cases he : e = 0
  · subst he
    by_cases hw : wideI l = 0
    · have hl := (wide_level l).1 hw
      have hr : rdElems s 0 l m = (⟨#[]⟩, 1, none) := by
        unfold rdElems rdHas
        rw [if_pos rfl, hl]; rfl
      rw [hr]
      exact (rR_elems_lev s l m hw W).mono fun r w' ⟨h1, h2⟩ => ⟨_, h1, ⟨rfl, fun g e => by cases e⟩, h2⟩
    · have hl : levelB l = true := by
        cases h : levelB l
        · exact absurd ((wide_level l).2 h) hw
        · rfl
      have hp := rdNum_pos s 0 m
      have hr : rdElems s 0 l m = if (rdNum s 0 m).2.1 = 0 then rdElms l (rdNum s 0 m).2.2.toNat (rdNum s 0 m).1 [] else ((rdNum s 0 m).1, (rdNum s 0 m).2.1, some []) := by
        unfold rdElems rdHas
        rw [if_pos rfl, hl]; rfl
      rw [hr]
      obtain ⟨q1, q2, q3, hq⟩ : ∃ q1 q2 q3, rdNum s 0 m = (q1, q2, q3) := ⟨_, _, _, rfl⟩
      rw [hq] at hp ⊢
      dsimp only at hp ⊢
      obtain ⟨N, rfl⟩ : ∃ N : Nat, q3 = (N : Int) := ⟨q3.toNat, by omega⟩
      by_cases h2 : q2 = 0
      · subst h2
        rw [if_pos rfl, Int.toNat_natCast]
        exact rR_elems_loop s l m hw q1 N hq hp.2 _ _ _ rfl W
      · rw [if_neg h2]
        exact (rR_elems_none s l m hw q1 q2 N hq h2 W).mono fun r w' ⟨h1, h3⟩ => ⟨_, h1, ⟨⟨none, 0, rfl, ⟨fun i hi => by simp at hi⟩⟩, fun g e => by cases e⟩, h3⟩
  · have hr : rdElems s e l m = (s, e, none) := by
      unfold rdElems rdHas
      rw [if_neg he]; rfl
    rw [hr]
    exact (rR_elems_err s e l m he W).mono fun r w' ⟨h1, h2⟩ => ⟨_, h1, ⟨rfl, fun g e => by cases e⟩, h2⟩
end Go.Proofs.Ytccpbpajappckaa
