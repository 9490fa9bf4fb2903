/- The contract of steepleref19.Pair, and steeplelaw19's awake, over the seat's translation. -/
import Derived.Test.YtcejppibcemdeaaPvJ
import Derived.OneCell
namespace Go.Proofs.Ytcejppibcemdeaa
open Go.RowKit
open Cb Rg
open Tw (pm)
namespace Pv

theorem _root_.Go.Proofs.Ytcejppibcemdeaa.Ew.roomP (w : World) (T : TypeId) : Ew (w.alloc (Obj.cells #[.int .u64 0, .int .u64 0] T)) w.heap.size 0 0 := ⟨⟨by simp [go_sem], by simp [go_sem]⟩, by simp [go_sem], by simp [go_sem]⟩
theorem flat_snocP (es : List (Nat × Nat)) (r : Nat × Nat) : flat (es ++ [r]) = flat es ++ [.int .u64 (r.1 : Nat), .int .u64 (r.2 : Nat)] := by simp [flat]
set_option maxHeartbeats 4000000 in
theorem awake19 : Ret 10 #[] (.bool true) := by
  intro W
  have HL := hidT (fun w => left_ok 1 (by decide) 2 rfl (0, 2) ⟨by decide, by decide⟩ (by decide) w)
  have HR := hidT (fun w => right_ok 1 (by decide) 2 rfl (0, 2) ⟨by decide, by decide⟩ (by decide) w)
  have HT := hidT (fun (p q : Nat) w (h1 : ERow w (some ⟨p, 0, none⟩) (pairv 2 (0, 2) (0, 1))) (h2 : ERow w (some ⟨q, 0, none⟩) (rightv 2 (0, 2))) => times_ok 1 (by decide) 2 rfl p 0 2 q 0 2 _ _ rfl rfl (fun e he => by
      have : e = (0, 0) ∨ e = (0, 1) := by revert e; decide
      rcases this with rfl | rfl <;> exact ⟨by decide, by decide⟩) (fun e he => by
      have : e = (0, 2) ∨ e = (0, 0) := by revert e; decide
      rcases this with rfl | rfl <;> exact ⟨by decide, by decide⟩) (fun e he => by
      have : e = (0, 0) ∨ e = (0, 1) := by revert e; decide
      rcases this with rfl | rfl <;> (show _ = _; decide)) (fun e he => by
      have : e = (0, 2) ∨ e = (0, 0) := by revert e; decide
      rcases this with rfl | rfl <;> (show _ = _; decide)) (by decide) (by decide) w h1 h2)
  rw [awake_pure] at HT
  go_enter Try.func10, Try.ntmps10
  go_wp2_with (first
    | (go_at_call 8; refine (HL.out _).mono ?_; rintro e w1 ⟨p, rfl, hr, hp, hb1⟩; have K1 := hidT (And.intro hr.1 hb1); clear hr hp hb1)
    | (go_at_call 9; refine (HR.out _).mono ?_; rintro e w2 ⟨q, rfl, hr, hq, hb2⟩; have K2 := hidT (And.intro (K1.out.1.below hb2) (And.intro hr (K1.out.2.trans (hb2.mono K1.out.2.size)))); clear hr hq hb2 K1)
    | (go_at_call 17; refine (HT.out p q _ K2.out.1 K2.out.2.1).mono ?_; rintro e w3 ⟨b, off, cap, rfl, hc, hr, hb3⟩; have K3 := hidT (K2.out.2.2.trans (hb3.mono K2.out.2.2.size)); obtain ⟨_, _, e0, _, x1, x0⟩ := hr.cells 0 (by decide); obtain ⟨_, _, e1, _, y1, y0⟩ := hr.cells 1 (by decide); injection e0 with e0; injection e0 with e0a e0b; subst e0a; subst e0b; injection e1 with e1; injection e1 with e1a e1b; subst e1a; subst e1b; simp only [List.getD_cons_zero, List.getD_cons_succ, Nat.zero_mul, Nat.one_mul, Nat.add_zero] at x1 x0 y1 y0; clear hc hr hb3 K2))
  go_ret
  exact ⟨by first | rfl | simp, K3.out⟩
set_option linter.unusedSimpArgs false in
set_option linter.unusedVariables false in
set_option maxHeartbeats 8000000 in
set_option maxRecDepth 100000 in
theorem rpair (k : Nat) (hk : k < 8) (N : Nat) (hN : N = 2 ^ k) (a b : Nat × Nat) (la : lt2 a) (lb : lt2 b) (W : World) :
    Calls Try.prog 13 #[.int .i64 (k : Int), .agg #[.int .u64 (a.1 : Int), .int .u64 (a.2 : Int)], .agg #[.int .u64 (b.1 : Int), .int .u64 (b.2 : Int)]] W fun e w' => ∃ g cap', e = .returned (.slice (some ⟨g, 0, none⟩) N cap') ∧ N ≤ cap' ∧ ERow w' (some ⟨g, 0, none⟩) (pairv N a b) ∧ W.heap.size ≤ g ∧ Below W.heap.size W w' := by
  have HNN := hidT (rn19 k hk)
  rw [← hN] at HNN
  have n1 : N ≤ 128 := by rw [hN]; exact Nat.le_trans (Nat.pow_le_pow_right (by decide) (show k ≤ 7 by omega)) (by decide)
  have n0 : 0 < N := by rw [hN]; exact Nat.two_pow_pos k
  have HH := hidT (fun (i : Nat) (hi : i < N) => has_any a.1 a.2 i la.1 la.2 (by omega))
  obtain ⟨i0, hi, hz0, hz1, hz2⟩ := info_relem
  have HI := hidT (show Try.prog.info? 28 = some i0 ∧ i0.zero = some (.agg #[.int .u64 0, .int .u64 0]) ∧ i0.size = 2 ∧ i0.bytes = 16 from ⟨hi, hz0, hz1, hz2⟩)
  clear hi hz0 hz1 hz2 hN la lb
  obtain ⟨wb, hwb⟩ : ∃ x, x = (W.alloc (Obj.cells #[.int .u64 (a.1 : Int), .int .u64 (a.2 : Int)] 28)).alloc (Obj.cells #[.int .u64 (b.1 : Int), .int .u64 (b.2 : Int)] 28) := ⟨_, rfl⟩
  have hS : wb.heap.size = W.heap.size + 2 := by rw [hwb]; simp
  have DW := hidT (show Below W.heap.size W wb from hwb ▸ ((Below.refl W.heap.size W).alloc (Nat.le_refl _) _).alloc (by simp) _)
  have A0 : El wb W.heap.size a.1 a.2 := by
    subst hwb
    exact (El.newP W a _).below ((Below.refl _ _).alloc (Nat.le_refl _) _)
  have B0 : El wb (W.heap.size + 1) b.1 b.2 := by
    subst hwb
    have := El.newP (W.alloc (Obj.cells #[.int .u64 (a.1 : Int), .int .u64 (a.2 : Int)] 28)) b 28
    simpa using this
  go_enter Try.func13, Try.ntmps13
  go_wp2_with fail
  rw [← hwb]
  clear hwb
  obtain ⟨B, hBe⟩ : ∃ B, B = wb.heap.size := ⟨_, rfl⟩
  have EE := hidT (fun w (hb : Below B wb w) => show El w W.heap.size a.1 a.2 ∧ El w (W.heap.size + 1) b.1 b.2 from ⟨A0.below (hBe ▸ hb), B0.below (hBe ▸ hb)⟩)
  have RB := hidT (show Below B wb wb ∧ B = W.heap.size + 2 from ⟨Below.refl _ _, hBe.trans hS⟩)
  have RZ := hidT (show B ≤ wb.heap.size from Nat.le_of_eq hBe)
  clear hBe A0 B0 hS
  go_loopw [7, 8] (fun v u wr => ∃ i : Nat, i ≤ N ∧ u = .int .i64 i ∧ Hid (wr.ownsRow B 28 2 v i (flat (pairv i a b)) ∧ Below B wb wr ∧ B ≤ wr.heap.size)) (fun _ u _ => N - (intOf u).toNat)
  case atStart => exact ⟨0, Nat.zero_le _, rfl, ⟨by simp [flat, pairv], .inl ⟨rfl, rfl⟩⟩, RB.out.1, RZ.out⟩
  case round =>
    obtain ⟨i, hi, rfl, HK⟩ := hrel
    by_cases hlt : i < N
    · have i1 : (i : Int) < (N : Int) := by omega
      have i0' : (0 : Int) ≤ (i : Int) := by omega
      have HX := hidT (HH.out i hlt)
      have HP := hidT (pairv_take i a b)
      rcases hbit : hs a i with _ | _
      · have HX2 := hidT (show Ret 37 #[.agg #[.int .u64 (a.1 : Int), .int .u64 (a.2 : Int)], .int .i64 (i : Int)] (.bool false) from by have := HX.out; rw [show hasB a.1 a.2 i = false from hbit] at this; exact this)
        rw [hbit] at HP
        clear HX hbit
        go_wp2_with (first
          | (go_at_call 36; refine (HNN.out.go _).mono ?_; rintro e w1 ⟨rfl, hb1⟩; have K1 := hidT (show w1.ownsRow B 28 2 u7 i (flat (pairv i a b)) ∧ Below B wb w1 ∧ B ≤ w1.heap.size from ⟨own_below HK.out.1 hb1, HK.out.2.1.trans (hb1.mono HK.out.2.2), Nat.le_trans HK.out.2.2 hb1.size⟩); clear hb1; have LA := K1.out.2.1.alloc K1.out.2.2 (Obj.cells #[.int .u64 0, .int .u64 0] 28); obtain ⟨f1, f0⟩ := (EE.out _ LA).1; clear LA)
          | (go_at_call 37; refine (HX2.out.go _).mono ?_; rintro e w2 ⟨rfl, hb2⟩; have K2 := hidT (show w2.ownsRow B 28 2 u7 i (flat (pairv i a b)) ∧ Below B wb w2 ∧ B ≤ w2.heap.size from ⟨own_below (own_below K1.out.1 ((Below.refl _ _).alloc (Nat.le_refl _) _)) hb2, (K1.out.2.1.alloc K1.out.2.2 _).trans (hb2.mono (by have := K1.out.2.2; simp; omega)), by have := K1.out.2.2; have := hb2.size; simp at this; omega⟩); obtain ⟨⟨g1, g0⟩, _, _⟩ := (Ew.roomP w1 28).below hb2; clear hb2 K1 f1 f0)
          | (at_builtin; refine wpList_append_lies _ rfl _ _ 32 rfl B 28 i0 (.agg #[.int .u64 0, .int .u64 0]) 2 16 Try.underlying32 HI.out.1 HI.out.2.1 HI.out.2.2.1 HI.out.2.2.2 rfl (by decide) u7 i _ rfl (own_below K2.out.1 ((Below.refl w2.heap.size w2).alloc (Nat.le_refl _) _)) ⟨w2.heap.size, 0, none⟩ 1 1 [.int .u64 0, .int .u64 0] rfl rfl (World.news_of_block (cs := #[.int .u64 0, .int .u64 0]) (heap_alloc_new w2 _)) (by simp [Value.oneCell']) (by decide) (by simp only [maxLen]; omega) (by omega) (by have := K2.out.2.2; simp; omega) _ rfl ?_; intro gg cp w5 hown5 hgr5 hat5 hlt5; have K5 := hidT (show w5.ownsRow B 28 2 (.slice (some ⟨gg, 0, none⟩) (i + 1) cp) (i + 1) (flat (pairv i a b) ++ [.int .u64 0, .int .u64 0]) ∧ Below B wb w5 ∧ B ≤ w5.heap.size from ⟨hown5, (K2.out.2.1.alloc K2.out.2.2 _).grown hgr5 (by have := K2.out.2.2; simp; omega) (fun q hq => (K2.out.1.lt q hq).1), by have := K2.out.2.2; have := hgr5.size; simp at this; omega⟩); clear hown5 hgr5 hat5 hlt5))
        refine ⟨⟨i + 1, hlt, by simp, ⟨?_, K5.out.2⟩⟩, by simp [intOf]; omega⟩
        rw [HP.out, flat_snocP]
        exact K5.out.1
      · have HX2 := hidT (show Ret 37 #[.agg #[.int .u64 (a.1 : Int), .int .u64 (a.2 : Int)], .int .i64 (i : Int)] (.bool true) from by have := HX.out; rw [show hasB a.1 a.2 i = true from hbit] at this; exact this)
        rw [hbit] at HP
        clear HX hbit
        go_wp2_with (first
          | (go_at_call 36; refine (HNN.out.go _).mono ?_; rintro e w1 ⟨rfl, hb1⟩; have K1 := hidT (show w1.ownsRow B 28 2 u7 i (flat (pairv i a b)) ∧ Below B wb w1 ∧ B ≤ w1.heap.size from ⟨own_below HK.out.1 hb1, HK.out.2.1.trans (hb1.mono HK.out.2.2), Nat.le_trans HK.out.2.2 hb1.size⟩); clear hb1; have LA := K1.out.2.1.alloc K1.out.2.2 (Obj.cells #[.int .u64 0, .int .u64 0] 28); obtain ⟨f1, f0⟩ := (EE.out _ LA).1; clear LA)
          | (go_at_call 37; refine (HX2.out.go _).mono ?_; rintro e w2 ⟨rfl, hb2⟩; have K2 := hidT (show w2.ownsRow B 28 2 u7 i (flat (pairv i a b)) ∧ Below B wb w2 ∧ B ≤ w2.heap.size ∧ u7.ownBlock ≠ some w1.heap.size ∧ B ≤ w1.heap.size from ⟨own_below (own_below K1.out.1 ((Below.refl _ _).alloc (Nat.le_refl _) _)) hb2, (K1.out.2.1.alloc K1.out.2.2 _).trans (hb2.mono (by have := K1.out.2.2; simp; omega)), by have := K1.out.2.2; have := hb2.size; simp at this; omega, fun e => Nat.lt_irrefl _ (K1.out.1.lt _ e).2, K1.out.2.2⟩); obtain ⟨⟨g1, g0⟩, z1, z0⟩ := (Ew.roomP w1 28).below hb2; clear hb2 K1 f1 f0; obtain ⟨f1, f0⟩ := (EE.out _ K2.out.2.1).2; have ne : ¬ W.heap.size + 1 = w1.heap.size := by have h1 := K2.out.2.2.2.2; have h2 := RB.out.2; omega)
          | (at_builtin; refine wpList_append_lies _ rfl _ _ 32 rfl B 28 i0 (.agg #[.int .u64 0, .int .u64 0]) 2 16 Try.underlying32 HI.out.1 HI.out.2.1 HI.out.2.2.1 HI.out.2.2.2 rfl (by decide) u7 i _ rfl (own_below (ownsRow_setCell_other (ownsRow_setCell_other K2.out.1 K2.out.2.2.2.1 _) K2.out.2.2.2.1 _) ((Below.refl _ _).alloc (Nat.le_refl _) _)) ⟨w2.heap.size, 0, none⟩ 1 1 [.int .u64 (b.1 : Nat), .int .u64 (b.2 : Nat)] (by first | rfl | (simp [go_sem]; done)) rfl (World.news_of_block (cs := #[.int .u64 (b.1 : Nat), .int .u64 (b.2 : Nat)]) (by first | exact heap_alloc_new _ _ | (have := heap_alloc_new ((w2.setCell ⟨w1.heap.size, 0, none⟩ (.int .u64 (b.1 : Int))).setCell ⟨w1.heap.size, 1, none⟩ (.int .u64 (b.2 : Int))) (Obj.cells #[.int .u64 (b.1 : Int), .int .u64 (b.2 : Int)] 28); simpa using this))) (by simp [Value.oneCell']) (by decide) (by simp only [maxLen]; omega) (by omega) (by have := K2.out.2.2.1; simp; omega) _ rfl ?_; intro gg cp w5 hown5 hgr5 hat5 hlt5; have K5 := hidT (show w5.ownsRow B 28 2 (.slice (some ⟨gg, 0, none⟩) (i + 1) cp) (i + 1) (flat (pairv i a b) ++ [.int .u64 (b.1 : Nat), .int .u64 (b.2 : Nat)]) ∧ Below B wb w5 ∧ B ≤ w5.heap.size from ⟨hown5, (((K2.out.2.1.setCell K2.out.2.2.2.2 _).setCell K2.out.2.2.2.2 _).alloc (by have := K2.out.2.2.1; simp; omega) _).grown hgr5 (by have := K2.out.2.2.1; simp; omega) (fun q hq => (K2.out.1.lt q hq).1), by have := K2.out.2.2.1; have := hgr5.size; simp at this; omega⟩); clear hown5 hgr5 hat5 hlt5))
        refine ⟨⟨i + 1, hlt, by simp, ⟨?_, K5.out.2⟩⟩, by simp [intOf]; omega⟩
        rw [HP.out, flat_snocP]
        exact K5.out.1
    · obtain rfl : i = N := by omega
      go_wp2_with (go_at_call 36; refine (HNN.out.go _).mono ?_; rintro e w1 ⟨rfl, hb1⟩; have K1 := hidT (show w1.ownsRow B 28 2 u7 i (flat (pairv i a b)) ∧ Below B wb w1 ∧ B ≤ w1.heap.size from ⟨own_below HK.out.1 hb1, HK.out.2.1.trans (hb1.mono HK.out.2.2), Nat.le_trans HK.out.2.2 hb1.size⟩); clear hb1)
      go_ret
      have hown := K1.out.1
      rcases hown.2 with ⟨_, h1⟩ | ⟨g, cap, cur, hu, hb2, hg, hn, _⟩
      · omega
      · subst hu
        obtain ⟨ra, c, e, hE⟩ := own_row (es := pairv i a b) (by rw [pairv_len]; exact hown)
        injection e with e1 e2 e3
        subst e1
        have hBW := RB.out.2
        exact ⟨g, cap, rfl, hn, hE, by omega, DW.out.trans (K1.out.2.1.mono (by omega))⟩
end Pv
end Go.Proofs.Ytcejppibcemdeaa
