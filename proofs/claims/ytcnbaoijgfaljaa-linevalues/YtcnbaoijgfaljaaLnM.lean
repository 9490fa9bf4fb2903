/- The walk of LineValues over the seat's translation. -/
import Derived.Test.YtcnbaoijgfaljaaLnK
import Derived.Test.YtcnbaoijgfaljaaLnI
import Derived.Test.YtcnbaoijgfaljaaLnL
import Derived.Test.YtcnbaoijgfaljaaPeel
namespace Go.Proofs.Ytcnbaoijgfaljaa
open Go.RowKit
open Cb Ln
open Tw (pm)

theorem lel_other {w : World} {b c h l : Nat} (e : El w c h l) (hn : b ≠ c) (u v : Value) : El ((w.setCell ⟨b, 0, none⟩ u).setCell ⟨b, 1, none⟩ v) c h l := by
  obtain ⟨h1, h2⟩ := e
  have hn' : c ≠ b := fun h => hn h.symm
  exact ⟨by simp [go_sem, *], by simp [go_sem, *]⟩
/-- The element, the value and the sum in their boxes. -/
structure Lv (W w : World) (qy qe : Nat) (x y s : Nat × Nat) : Prop where
  x : El w W.heap.size x.1 x.2
  y : El w qy y.1 y.2
  s : Ew w qe s.1 s.2
  d : Below W.heap.size W w
  n1 : W.heap.size < qe
  n2 : qe ≠ qy
section
variable {W w w' : World} {qy qe : Nat} {x y s : Nat × Nat}
theorem Lv.below (h : Lv W w qy qe x y s) (hb : Below w.heap.size w w') : Lv W w' qy qe x y s := ⟨h.x.below hb, h.y.below hb, h.s.below hb, h.d.trans (hb.mono h.d.size), h.n1, h.n2⟩
theorem Lv.drew (h : Lv W w qy qe x y s) : Lv W w.drew qy qe x y s := h.below (Below.refl _ _).drew
theorem Lv.put (h : Lv W w qy qe x y s) (z : Nat × Nat) : Lv W ((w.setCell ⟨qe, 0, none⟩ (.int .u64 (z.1 : Int))).setCell ⟨qe, 1, none⟩ (.int .u64 (z.2 : Int))) qy qe x y z :=
  ⟨lel_other h.x (by have := h.n1; omega) _ _, lel_other h.y h.n2 _ _, h.s.set _ _, below2 (p := qe) h.d (by have := h.n1; omega) _ _, h.n1, h.n2⟩
theorem Lv.facts (h : Lv W w qy qe x y s) : w.cell? ⟨W.heap.size, 0, none⟩ = some (.int .u64 (x.1 : Int)) ∧ w.cell? ⟨W.heap.size, 1, none⟩ = some (.int .u64 (x.2 : Int)) ∧ w.cell? ⟨qy, 0, none⟩ = some (.int .u64 (y.1 : Int)) ∧ w.cell? ⟨qy, 1, none⟩ = some (.int .u64 (y.2 : Int)) ∧ w.cell? ⟨qe, 0, none⟩ = some (.int .u64 (s.1 : Int)) ∧ w.cell? ⟨qe, 1, none⟩ = some (.int .u64 (s.2 : Int)) := ⟨h.x.hi, h.x.lo, h.y.hi, h.y.lo, h.s.hi, h.s.lo⟩
end
set_option maxHeartbeats 20000000 in
set_option maxRecDepth 100000 in
theorem lv_1 (l : Int) (a : Option Addr) (cap : Nat) (t : List (Nat × Nat)) (x : Nat × Nat) (ht : ltE t) (hx : lt2 x) (h12 : t.length ≤ 12) (hcap : t.length ≤ cap) (E : Int) (hE : lmy l t = E) (h0 : ¬ E = 0) (W : World) (ha : ERow W a t) :
    Calls Try.prog 3 #[.int .i64 l, .slice a t.length cap, .agg #[.int .u64 (x.1 : Int), .int .u64 (x.2 : Int)]] W fun e w' => e = .returned (.bool true) ∧ Below W.heap.size W w' := by
  have AW : Hid (Ret 9 #[] (.bool true)) := awake17
  obtain ⟨y, hy⟩ : ∃ y : Nat × Nat, y = (0, 0) := ⟨_, rfl⟩
  have hy1 : (y.1 : Int) = 0 := by rw [hy]; rfl
  have hy0 : (y.2 : Int) = 0 := by rw [hy]; rfl
  have HA : Hid (∀ w, Below W.heap.size W w → Calls Try.prog 10 #[.int .i64 l, .slice a t.length cap, .agg #[.int .u64 (x.1 : Int), .int .u64 (x.2 : Int)]] w fun e w' => e = .returned (.tuple #[.agg #[.int .u64 (y.1 : Int), .int .u64 (y.2 : Int)], .int .i64 E]) ∧ Below w.heap.size w w') := fun w hb => by
    rw [hy1, hy0]
    exact lat_err l a cap t x ht hx (by omega) E (by rw [lhnd_lmy, hE, if_neg h0]) h0 w (ha.below hb)
  have HYZ : Hid ((y.1 : Int) = 0 ∧ (y.2 : Int) = 0) := ⟨hy1, hy0⟩
  clear hy1 hy0
  have HM : Hid (∀ w, Below W.heap.size W w → Calls Try.prog 11 #[.int .i64 l, .slice a t.length cap] w fun e w' => e = .returned (.int .i64 E) ∧ Below w.heap.size w w') := fun w hb => by
    have := lmay l a cap t ht (by omega) w (ha.below hb)
    rw [hE] at this; exact this
  have HEn : Hid (∀ w, Below W.heap.size W w → Calls Try.prog 14 #[.slice a t.length cap] w fun e w' => e = .returned (.agg #[.int .u64 ((ends t).1 : Int), .int .u64 ((ends t).2 : Int)]) ∧ Below w.heap.size w w') := fun w hb => lends a cap t ht (by omega) w (ha.below hb) hcap
  have HF1 : Hid (Ret 15 #[.int .i64 l, .int .i64 ((t.length : Int) - 1)] (.bool (fitB l ((t.length : Int) - 1)))) := lfits _ _
  have HF2 : Hid (Ret 16 #[.int .i64 l, .int .i64 ((t.length : Int) - 1)] (.bool (fitB l ((t.length : Int) - 1)))) := rfits _ _
  have gw : IntKind.i64.wrap ((t.length : Int) - 1) = (t.length : Int) - 1 := by rw [IntKind.wrap_i64]; omega
  have g12 : ¬ (12 : Int) < (t.length : Int) := by omega
  have HT : Hid (ERow W a t ∧ ltE t ∧ t.length ≤ 12) := ⟨ha, ht, h12⟩
  have X0 : Hid (El (W.alloc (Obj.cells #[.int .u64 (x.1 : Int), .int .u64 (x.2 : Int)] 25)) W.heap.size x.1 x.2 ∧ Below W.heap.size W (W.alloc (Obj.cells #[.int .u64 (x.1 : Int), .int .u64 (x.2 : Int)] 25))) := ⟨⟨by simp [go_sem], by simp [go_sem]⟩, by go_grown⟩
  clear ha ht hcap hE hy hx
  generalize fitB l ((t.length : Int) - 1) = f at *
  go_enter Try.func3, Try.ntmps3
  go_wp2_with (first | (go_at_call 10; refine (HA.out _ X0.out.2).mono ?_; rintro e w1 ⟨rfl, hb1⟩; have X1 : Hid ((El (w1.alloc (Obj.cells #[.int .u64 (y.1 : Int), .int .u64 (y.2 : Int)] 25)) W.heap.size x.1 x.2 ∧ El (w1.alloc (Obj.cells #[.int .u64 (y.1 : Int), .int .u64 (y.2 : Int)] 25)) w1.heap.size y.1 y.2) ∧ Below W.heap.size W (w1.alloc (Obj.cells #[.int .u64 (y.1 : Int), .int .u64 (y.2 : Int)] 25)) ∧ W.heap.size < w1.heap.size) := ⟨⟨(X0.out.1.below hb1).alloc _, lel_new w1 y _⟩, (X0.out.2.trans (hb1.mono X0.out.2.size)).alloc (X0.out.2.trans (hb1.mono X0.out.2.size)).size _, (X0.out.1.below hb1).lt⟩; clear hb1; have x1 := X1.out.1.1.hi; have x0 := X1.out.1.1.lo) | (go_at_call 11; refine (HM.out _ X1.out.2.1).mono ?_; rintro e w2 ⟨rfl, hb2⟩; have X2 : Hid ((El w2 W.heap.size x.1 x.2 ∧ El w2 w1.heap.size y.1 y.2) ∧ Below W.heap.size W w2 ∧ W.heap.size < w1.heap.size) := ⟨⟨X1.out.1.1.below hb2, X1.out.1.2.below hb2⟩, X1.out.2.1.trans (hb2.mono X1.out.2.1.size), X1.out.2.2⟩; clear hb2 x1 x0; have x1 := X2.out.1.1.hi; have x0 := X2.out.1.1.lo))
  have KL : Lv W (w2.alloc (Obj.cells #[.int .u64 0, .int .u64 0] 32)) w1.heap.size w2.heap.size x y (0, 0) := by
    have hd := X2.out.2.1
    have hy := X2.out.1.2.lt
    exact ⟨X2.out.1.1.alloc _, X2.out.1.2.alloc _, Ew.roomN w2 32, hd.alloc hd.size _, X2.out.1.1.lt, by omega⟩
  (try clear x1 x0)
  clear X0 X1 X2 HA HM
  generalize (w2.alloc (Obj.cells #[.int .u64 0, .int .u64 0] 32)) = w5 at *
  generalize w2.heap.size = qe at *
  generalize w1.heap.size = qy at *
  go_loopw [11] (fun u wr => ∃ j : Nat, j ≤ t.length ∧ j ≤ 2 ∧ u = .int .i64 j ∧ Lv W wr qy qe x y (xsum (t.take j))) (fun u _ => 3 - (intOf u).toNat)
  case atStart => exact ⟨0, Nat.zero_le _, Nat.zero_le _, rfl, KL⟩
  case round =>
    obtain ⟨j, hj, hj2, rfl, K⟩ := hrel
    clear KL
    by_cases hlt : j < t.length ∧ j < 2
    · obtain ⟨b, off, rfl, hb, c1, c0⟩ := HT.out.1.cells j hlt.1
      have b0 : (j : Int) < (t.length : Int) := by omega
      have b1 : (j : Int) < 2 := by omega
      have b2 : (0 : Int) ≤ (j : Int) := by omega
      have HN : Hid (xsum (t.take (j + 1)) = xa (xsum (t.take j)) (t.getD j (0, 0))) := by show _ = _; rw [take_sn t j hlt.1, xsum_snoc]; rfl
      have H1 := Hid.mkN (lradd (xsum (t.take j)) (t.getD j (0, 0)) (xsum_lt t HT.out.2.1 j) (HT.out.2.1.at j))
      have HC : Hid (W.cell? ⟨b, off + j * 2, none⟩ = some (.int .u64 ((t.getD j (0, 0)).1 : Int)) ∧ W.cell? ⟨b, off + j * 2 + 1, none⟩ = some (.int .u64 ((t.getD j (0, 0)).2 : Int))) := ⟨c1, c0⟩
      clear c1 c0 hb
      generalize t.getD j (0, 0) = v at *
      generalize xsum (t.take j) = s at *
      rw [← HN.out] at H1
      obtain ⟨z, hz⟩ : ∃ z, z = xsum (t.take (j + 1)) := ⟨_, rfl⟩
      rw [← hz] at H1
      have HZ : Hid (z = xsum (t.take (j + 1))) := hz
      clear hz HN
      go_upto_region 11 with fail
      refine wp_region_noPanic ?_
      refine wp_region_peel (S := fun w => w.cell? ⟨qe, 0, none⟩ = some (.int .u64 (s.1 : Int)) ∧ w.cell? ⟨qe, 1, none⟩ = some (.int .u64 (s.2 : Int)) ∧ w.cell? ⟨b, off + j * 2, none⟩ = some (.int .u64 (v.1 : Int)) ∧ w.cell? ⟨b, off + j * 2 + 1, none⟩ = some (.int .u64 (v.2 : Int))) 6 (by kernel_rfl) rfl (by kernel_rfl) ?_ (fun hHeld => ?_)
      · exact ⟨K.s.hi, K.s.lo, keepc K.d HC.out.1, keepc K.d HC.out.2⟩
      refine wpAnyH_take (i := 0) (oi := _) (v := ?_) rfl (by kernel_rfl) (by kernel_rfl) (by kernel_rfl) (fun _ _ _ h => h) (Or.inl ⟨by rfl, ?_⟩) (by assumption) ?_
      rotate_left
      · ((intro w hSw; (try dsimp only at hSw); go_simp) <;> (try with_reducible rfl))
      try simp only [Act.put]
      refine wpAnyH_take (i := 1) (oi := _) (v := ?_) rfl (by kernel_rfl) (by kernel_rfl) (by kernel_rfl) (fun _ _ _ h => h) (Or.inl ⟨by rfl, ?_⟩) (by assumption) ?_
      rotate_left
      · ((intro w hSw; (try dsimp only at hSw); go_simp) <;> (try with_reducible rfl))
      try simp only [Act.put]
      refine wpAnyH_take (i := 2) (oi := _) (v := ?_) rfl (by kernel_rfl) (by kernel_rfl) (by kernel_rfl) (fun _ _ _ h => h) (Or.inl ⟨by rfl, ?_⟩) (by assumption) ?_
      rotate_left
      · ((intro w hSw; (try dsimp only at hSw); go_simp) <;> (try with_reducible rfl))
      try simp only [Act.put]
      refine wpAnyH_take (i := 3) (oi := _) (v := ?_) rfl (by kernel_rfl) (by kernel_rfl) (by kernel_rfl) (fun _ _ _ h => h) (Or.inl ⟨by rfl, ?_⟩) (by assumption) ?_
      rotate_left
      · ((intro w hSw; (try dsimp only at hSw); go_simp) <;> (try with_reducible rfl))
      try simp only [Act.put]
      refine wpAnyH_take (i := 4) (oi := _) (v := ?_) rfl (by kernel_rfl) (by kernel_rfl) (by kernel_rfl) (fun _ _ _ h => h) (Or.inl ⟨by rfl, ?_⟩) (by assumption) ?_
      rotate_left
      · ((intro w hSw; (try dsimp only at hSw); go_simp) <;> (try with_reducible rfl))
      try simp only [Act.put]
      refine wpAnyH_ready (rs := [5]) (by kernel_rfl) (by simp) ?_
      refine AllReadyH.cons (o := _) rfl (fun KK hKK => ?_) AllReadyH.nil
      go_simp
      (go_at_call 13; refine (H1.out.go _).mono ?_; rintro e w' ⟨rfl, hb'⟩)
      have K'' := Lv.below (w' := w') (by first | exact K | exact K.drew) hb'
      clear K hb'
      have K := K''
      clear K''
      refine hKK.out _ _ ?_ (fun hHeld => ?_)
      · exact ⟨K.s.hi, K.s.lo, keepc K.d HC.out.1, keepc K.d HC.out.2⟩
      clear hKK KK
      try simp only [Act.put]
      refine wpAnyH_done (by kernel_rfl) ?_ _
      refine peel_last rfl (fun KK hKK => ?_)
      clear hHeld
      obtain ⟨⟨s1, s0⟩, z1, z0⟩ := K.s
      go_simp
      refine hKK _ _ ?_
      refine NoPanic.normal ?_
      clear hKK KK
      clear s1 s0 z1 z0
      have KP : Hid (Lv W _ qy qe x y z) := K.put z
      clear K
      go_wp2
      exact ⟨⟨j + 1, hlt.1, by omega, by simp, by rw [← HZ.out]; exact KP.out⟩, by simp [intOf]; omega⟩
    · have hse : xsum (t.take j) = ends t := by
        unfold ends
        by_cases h : j = 2
        · rw [h]
        · rw [List.take_of_length_le (show t.length ≤ j by omega), List.take_of_length_le (show t.length ≤ 2 by omega)]
      rw [hse] at K
      clear hse HT
      generalize ends t = s at *
      have KH : Hid (Lv W wr qy qe x y s) := K
      clear K
      obtain hc | ⟨hc, hc2⟩ : (¬ ((j : Int) < (t.length : Int))) ∨ (((j : Int) < (t.length : Int)) ∧ ¬ ((j : Int) < 2)) := by omega
      all_goals
        go_upto_region 12 with fail
        obtain ⟨O, hO⟩ : ∃ O : Hid (Lv W wr qy qe x y s), True := ⟨KH, trivial⟩
        clear hO KH
        have F : _ ∧ _ := ⟨O.out.s.hi, O.out.s.lo⟩
        go_region_held3 (fun w => w.cell? ⟨qe, 0, none⟩ = some (.int .u64 (s.1 : Int)) ∧ w.cell? ⟨qe, 1, none⟩ = some (.int .u64 (s.2 : Int))) (first | (go_keep; done) | exact ⟨O.out.s.hi, O.out.s.lo⟩) (first | (go_at_call 14; refine (HEn.out _ (by first | exact O.out.d | exact O.out.drew.d)).mono ?_; rintro e w' ⟨rfl, hb'⟩; have O' := Hid.mkN (Lv.below (w' := w') (by first | exact O.out | exact O.out.drew) hb'); clear F O hb'; have O := O'; clear O'; have F : _ ∧ _ := ⟨O.out.s.hi, O.out.s.lo⟩) | (go_at_call 15; refine (HF1.out.go _).mono ?_; rintro e w' ⟨rfl, hb'⟩; have O' := Hid.mkN (Lv.below (w' := w') (by first | exact O.out | exact O.out.drew) hb'); clear F O hb'; have O := O'; clear O'; have F : _ ∧ _ := ⟨O.out.s.hi, O.out.s.lo⟩) | (go_at_call 16; refine (HF2.out.go _).mono ?_; rintro e w' ⟨rfl, hb'⟩; have O' := Hid.mkN (Lv.below (w' := w') (by first | exact O.out | exact O.out.drew) hb'); clear F O hb'; have O := O'; clear O'; have F : _ ∧ _ := ⟨O.out.s.hi, O.out.s.lo⟩))
        go_wp2_with (go_at_call 9; refine (AW.out.go _).mono ?_; rintro e w9 ⟨rfl, hb9⟩; have K9 : Hid (Lv W w9 qy qe x y s) := O.out.below hb9; clear hb9; obtain ⟨y1, y0⟩ := K9.out.y; obtain ⟨hy1, hy0⟩ := HYZ.out; rw [hy1] at y1; rw [hy0] at y0)
        go_ret
        exact ⟨rfl, K9.out.d⟩
set_option maxHeartbeats 20000000 in
set_option maxRecDepth 100000 in
theorem lv_2 (l : Int) (a : Option Addr) (cap : Nat) (t : List (Nat × Nat)) (x : Nat × Nat) (ht : ltE t) (hx : lt2 x) (h12 : t.length ≤ 12) (hcap : t.length ≤ cap) (hE : lmy l t = 0) (hx5 : ofB l (x.1 : Int) (x.2 : Int) = false) (W : World) (ha : ERow W a t) :
    Calls Try.prog 3 #[.int .i64 l, .slice a t.length cap, .agg #[.int .u64 (x.1 : Int), .int .u64 (x.2 : Int)]] W fun e w' => e = .returned (.bool true) ∧ Below W.heap.size W w' := by
  have AW : Hid (Ret 9 #[] (.bool true)) := awake17
  obtain ⟨y, hy⟩ : ∃ y : Nat × Nat, y = (0, 0) := ⟨_, rfl⟩
  have hy1 : (y.1 : Int) = 0 := by rw [hy]; rfl
  have hy0 : (y.2 : Int) = 0 := by rw [hy]; rfl
  have HA : Hid (∀ w, Below W.heap.size W w → Calls Try.prog 10 #[.int .i64 l, .slice a t.length cap, .agg #[.int .u64 (x.1 : Int), .int .u64 (x.2 : Int)]] w fun e w' => e = .returned (.tuple #[.agg #[.int .u64 (y.1 : Int), .int .u64 (y.2 : Int)], .int .i64 5]) ∧ Below w.heap.size w w') := fun w hb => by
    rw [hy1, hy0]
    exact lat_err l a cap t x ht hx (by omega) 5 (by rw [lhnd_lmy, if_pos hE, hx5]; rfl) (by decide) w (ha.below hb)
  have HYZ : Hid ((y.1 : Int) = 0 ∧ (y.2 : Int) = 0) := ⟨hy1, hy0⟩
  clear hy1 hy0
  have HO : Hid (Ret 12 #[.int .i64 l, .agg #[.int .u64 (x.1 : Int), .int .u64 (x.2 : Int)]] (.bool false)) := by
    have := rof_any l x.1 x.2 hx.1 hx.2
    rw [hx5] at this; exact this
  have HM : Hid (∀ w, Below W.heap.size W w → Calls Try.prog 11 #[.int .i64 l, .slice a t.length cap] w fun e w' => e = .returned (.int .i64 0) ∧ Below w.heap.size w w') := fun w hb => by
    have := lmay l a cap t ht (by omega) w (ha.below hb)
    rw [hE] at this; exact this
  have HEn : Hid (∀ w, Below W.heap.size W w → Calls Try.prog 14 #[.slice a t.length cap] w fun e w' => e = .returned (.agg #[.int .u64 ((ends t).1 : Int), .int .u64 ((ends t).2 : Int)]) ∧ Below w.heap.size w w') := fun w hb => lends a cap t ht (by omega) w (ha.below hb) hcap
  have HF1 : Hid (Ret 15 #[.int .i64 l, .int .i64 ((t.length : Int) - 1)] (.bool (fitB l ((t.length : Int) - 1)))) := lfits _ _
  have HF2 : Hid (Ret 16 #[.int .i64 l, .int .i64 ((t.length : Int) - 1)] (.bool (fitB l ((t.length : Int) - 1)))) := rfits _ _
  have gw : IntKind.i64.wrap ((t.length : Int) - 1) = (t.length : Int) - 1 := by rw [IntKind.wrap_i64]; omega
  have g12 : ¬ (12 : Int) < (t.length : Int) := by omega
  have HT : Hid (ERow W a t ∧ ltE t ∧ t.length ≤ 12) := ⟨ha, ht, h12⟩
  have X0 : Hid (El (W.alloc (Obj.cells #[.int .u64 (x.1 : Int), .int .u64 (x.2 : Int)] 25)) W.heap.size x.1 x.2 ∧ Below W.heap.size W (W.alloc (Obj.cells #[.int .u64 (x.1 : Int), .int .u64 (x.2 : Int)] 25))) := ⟨⟨by simp [go_sem], by simp [go_sem]⟩, by go_grown⟩
  clear ha ht hcap hE hy hx hx5
  generalize fitB l ((t.length : Int) - 1) = f at *
  go_enter Try.func3, Try.ntmps3
  go_wp2_with (first | (go_at_call 10; refine (HA.out _ X0.out.2).mono ?_; rintro e w1 ⟨rfl, hb1⟩; have X1 : Hid ((El (w1.alloc (Obj.cells #[.int .u64 (y.1 : Int), .int .u64 (y.2 : Int)] 25)) W.heap.size x.1 x.2 ∧ El (w1.alloc (Obj.cells #[.int .u64 (y.1 : Int), .int .u64 (y.2 : Int)] 25)) w1.heap.size y.1 y.2) ∧ Below W.heap.size W (w1.alloc (Obj.cells #[.int .u64 (y.1 : Int), .int .u64 (y.2 : Int)] 25)) ∧ W.heap.size < w1.heap.size) := ⟨⟨(X0.out.1.below hb1).alloc _, lel_new w1 y _⟩, (X0.out.2.trans (hb1.mono X0.out.2.size)).alloc (X0.out.2.trans (hb1.mono X0.out.2.size)).size _, (X0.out.1.below hb1).lt⟩; clear hb1; have x1 := X1.out.1.1.hi; have x0 := X1.out.1.1.lo) | (go_at_call 11; refine (HM.out _ X1.out.2.1).mono ?_; rintro e w2 ⟨rfl, hb2⟩; have X2 : Hid ((El w2 W.heap.size x.1 x.2 ∧ El w2 w1.heap.size y.1 y.2) ∧ Below W.heap.size W w2 ∧ W.heap.size < w1.heap.size) := ⟨⟨X1.out.1.1.below hb2, X1.out.1.2.below hb2⟩, X1.out.2.1.trans (hb2.mono X1.out.2.1.size), X1.out.2.2⟩; clear hb2 x1 x0; have x1 := X2.out.1.1.hi; have x0 := X2.out.1.1.lo) | (go_at_call 12; refine (HO.out.go _).mono ?_; rintro e w3 ⟨rfl, hb3⟩; have X3 : Hid ((El w3 W.heap.size x.1 x.2 ∧ El w3 w1.heap.size y.1 y.2) ∧ Below W.heap.size W w3 ∧ W.heap.size < w1.heap.size) := ⟨⟨X2.out.1.1.below hb3, X2.out.1.2.below hb3⟩, X2.out.2.1.trans (hb3.mono X2.out.2.1.size), X2.out.2.2⟩; clear hb3 x1 x0))
  have KL : Lv W (w3.alloc (Obj.cells #[.int .u64 0, .int .u64 0] 32)) w1.heap.size w3.heap.size x y (0, 0) := by
    have hd := X3.out.2.1
    have hy := X3.out.1.2.lt
    exact ⟨X3.out.1.1.alloc _, X3.out.1.2.alloc _, Ew.roomN w3 32, hd.alloc hd.size _, X3.out.1.1.lt, by omega⟩
  (try clear x1 x0)
  clear X0 X1 X2 X3 HA HM HO
  generalize (w3.alloc (Obj.cells #[.int .u64 0, .int .u64 0] 32)) = w5 at *
  generalize w3.heap.size = qe at *
  generalize w1.heap.size = qy at *
  go_loopw [11] (fun u wr => ∃ j : Nat, j ≤ t.length ∧ j ≤ 2 ∧ u = .int .i64 j ∧ Lv W wr qy qe x y (xsum (t.take j))) (fun u _ => 3 - (intOf u).toNat)
  case atStart => exact ⟨0, Nat.zero_le _, Nat.zero_le _, rfl, KL⟩
  case round =>
    obtain ⟨j, hj, hj2, rfl, K⟩ := hrel
    clear KL
    by_cases hlt : j < t.length ∧ j < 2
    · obtain ⟨b, off, rfl, hb, c1, c0⟩ := HT.out.1.cells j hlt.1
      have b0 : (j : Int) < (t.length : Int) := by omega
      have b1 : (j : Int) < 2 := by omega
      have b2 : (0 : Int) ≤ (j : Int) := by omega
      have HN : Hid (xsum (t.take (j + 1)) = xa (xsum (t.take j)) (t.getD j (0, 0))) := by show _ = _; rw [take_sn t j hlt.1, xsum_snoc]; rfl
      have H1 := Hid.mkN (lradd (xsum (t.take j)) (t.getD j (0, 0)) (xsum_lt t HT.out.2.1 j) (HT.out.2.1.at j))
      have HC : Hid (W.cell? ⟨b, off + j * 2, none⟩ = some (.int .u64 ((t.getD j (0, 0)).1 : Int)) ∧ W.cell? ⟨b, off + j * 2 + 1, none⟩ = some (.int .u64 ((t.getD j (0, 0)).2 : Int))) := ⟨c1, c0⟩
      clear c1 c0 hb
      generalize t.getD j (0, 0) = v at *
      generalize xsum (t.take j) = s at *
      rw [← HN.out] at H1
      obtain ⟨z, hz⟩ : ∃ z, z = xsum (t.take (j + 1)) := ⟨_, rfl⟩
      rw [← hz] at H1
      have HZ : Hid (z = xsum (t.take (j + 1))) := hz
      clear hz HN
      go_upto_region 11 with fail
      refine wp_region_noPanic ?_
      refine wp_region_peel (S := fun w => w.cell? ⟨qe, 0, none⟩ = some (.int .u64 (s.1 : Int)) ∧ w.cell? ⟨qe, 1, none⟩ = some (.int .u64 (s.2 : Int)) ∧ w.cell? ⟨b, off + j * 2, none⟩ = some (.int .u64 (v.1 : Int)) ∧ w.cell? ⟨b, off + j * 2 + 1, none⟩ = some (.int .u64 (v.2 : Int))) 6 (by kernel_rfl) rfl (by kernel_rfl) ?_ (fun hHeld => ?_)
      · exact ⟨K.s.hi, K.s.lo, keepc K.d HC.out.1, keepc K.d HC.out.2⟩
      refine wpAnyH_take (i := 0) (oi := _) (v := ?_) rfl (by kernel_rfl) (by kernel_rfl) (by kernel_rfl) (fun _ _ _ h => h) (Or.inl ⟨by rfl, ?_⟩) (by assumption) ?_
      rotate_left
      · ((intro w hSw; (try dsimp only at hSw); go_simp) <;> (try with_reducible rfl))
      try simp only [Act.put]
      refine wpAnyH_take (i := 1) (oi := _) (v := ?_) rfl (by kernel_rfl) (by kernel_rfl) (by kernel_rfl) (fun _ _ _ h => h) (Or.inl ⟨by rfl, ?_⟩) (by assumption) ?_
      rotate_left
      · ((intro w hSw; (try dsimp only at hSw); go_simp) <;> (try with_reducible rfl))
      try simp only [Act.put]
      refine wpAnyH_take (i := 2) (oi := _) (v := ?_) rfl (by kernel_rfl) (by kernel_rfl) (by kernel_rfl) (fun _ _ _ h => h) (Or.inl ⟨by rfl, ?_⟩) (by assumption) ?_
      rotate_left
      · ((intro w hSw; (try dsimp only at hSw); go_simp) <;> (try with_reducible rfl))
      try simp only [Act.put]
      refine wpAnyH_take (i := 3) (oi := _) (v := ?_) rfl (by kernel_rfl) (by kernel_rfl) (by kernel_rfl) (fun _ _ _ h => h) (Or.inl ⟨by rfl, ?_⟩) (by assumption) ?_
      rotate_left
      · ((intro w hSw; (try dsimp only at hSw); go_simp) <;> (try with_reducible rfl))
      try simp only [Act.put]
      refine wpAnyH_take (i := 4) (oi := _) (v := ?_) rfl (by kernel_rfl) (by kernel_rfl) (by kernel_rfl) (fun _ _ _ h => h) (Or.inl ⟨by rfl, ?_⟩) (by assumption) ?_
      rotate_left
      · ((intro w hSw; (try dsimp only at hSw); go_simp) <;> (try with_reducible rfl))
      try simp only [Act.put]
      refine wpAnyH_ready (rs := [5]) (by kernel_rfl) (by simp) ?_
      refine AllReadyH.cons (o := _) rfl (fun KK hKK => ?_) AllReadyH.nil
      go_simp
      (go_at_call 13; refine (H1.out.go _).mono ?_; rintro e w' ⟨rfl, hb'⟩)
      have K'' := Lv.below (w' := w') (by first | exact K | exact K.drew) hb'
      clear K hb'
      have K := K''
      clear K''
      refine hKK.out _ _ ?_ (fun hHeld => ?_)
      · exact ⟨K.s.hi, K.s.lo, keepc K.d HC.out.1, keepc K.d HC.out.2⟩
      clear hKK KK
      try simp only [Act.put]
      refine wpAnyH_done (by kernel_rfl) ?_ _
      refine peel_last rfl (fun KK hKK => ?_)
      clear hHeld
      obtain ⟨⟨s1, s0⟩, z1, z0⟩ := K.s
      go_simp
      refine hKK _ _ ?_
      refine NoPanic.normal ?_
      clear hKK KK
      clear s1 s0 z1 z0
      have KP : Hid (Lv W _ qy qe x y z) := K.put z
      clear K
      go_wp2
      exact ⟨⟨j + 1, hlt.1, by omega, by simp, by rw [← HZ.out]; exact KP.out⟩, by simp [intOf]; omega⟩
    · have hse : xsum (t.take j) = ends t := by
        unfold ends
        by_cases h : j = 2
        · rw [h]
        · rw [List.take_of_length_le (show t.length ≤ j by omega), List.take_of_length_le (show t.length ≤ 2 by omega)]
      rw [hse] at K
      clear hse HT
      generalize ends t = s at *
      have KH : Hid (Lv W wr qy qe x y s) := K
      clear K
      obtain hc | ⟨hc, hc2⟩ : (¬ ((j : Int) < (t.length : Int))) ∨ (((j : Int) < (t.length : Int)) ∧ ¬ ((j : Int) < 2)) := by omega
      all_goals
        go_upto_region 12 with fail
        obtain ⟨O, hO⟩ : ∃ O : Hid (Lv W wr qy qe x y s), True := ⟨KH, trivial⟩
        clear hO KH
        have F : _ ∧ _ := ⟨O.out.s.hi, O.out.s.lo⟩
        go_region_held3 (fun w => w.cell? ⟨qe, 0, none⟩ = some (.int .u64 (s.1 : Int)) ∧ w.cell? ⟨qe, 1, none⟩ = some (.int .u64 (s.2 : Int))) (first | (go_keep; done) | exact ⟨O.out.s.hi, O.out.s.lo⟩) (first | (go_at_call 14; refine (HEn.out _ (by first | exact O.out.d | exact O.out.drew.d)).mono ?_; rintro e w' ⟨rfl, hb'⟩; have O' := Hid.mkN (Lv.below (w' := w') (by first | exact O.out | exact O.out.drew) hb'); clear F O hb'; have O := O'; clear O'; have F : _ ∧ _ := ⟨O.out.s.hi, O.out.s.lo⟩) | (go_at_call 15; refine (HF1.out.go _).mono ?_; rintro e w' ⟨rfl, hb'⟩; have O' := Hid.mkN (Lv.below (w' := w') (by first | exact O.out | exact O.out.drew) hb'); clear F O hb'; have O := O'; clear O'; have F : _ ∧ _ := ⟨O.out.s.hi, O.out.s.lo⟩) | (go_at_call 16; refine (HF2.out.go _).mono ?_; rintro e w' ⟨rfl, hb'⟩; have O' := Hid.mkN (Lv.below (w' := w') (by first | exact O.out | exact O.out.drew) hb'); clear F O hb'; have O := O'; clear O'; have F : _ ∧ _ := ⟨O.out.s.hi, O.out.s.lo⟩))
        go_wp2_with (go_at_call 9; refine (AW.out.go _).mono ?_; rintro e w9 ⟨rfl, hb9⟩; have K9 : Hid (Lv W w9 qy qe x y s) := O.out.below hb9; clear hb9; obtain ⟨y1, y0⟩ := K9.out.y; obtain ⟨hy1, hy0⟩ := HYZ.out; rw [hy1] at y1; rw [hy0] at y0)
        go_ret
        exact ⟨rfl, K9.out.d⟩
set_option maxHeartbeats 20000000 in
set_option maxRecDepth 100000 in
theorem lv_3 (k : Nat) (hk : k < 8) (a : Option Addr) (cap : Nat) (t : List (Nat × Nat)) (x : Nat × Nat) (ht : ltE t) (hx : lt2 x) (h12 : t.length ≤ 12) (hcap : t.length ≤ cap) (hE : lmy (k : Int) t = 0) (ox : ofE k x) (W : World) (ha : ERow W a t) :
    Calls Try.prog 3 #[.int .i64 (k : Int), .slice a t.length cap, .agg #[.int .u64 (x.1 : Int), .int .u64 (x.2 : Int)]] W fun e w' => e = .returned (.bool true) ∧ Below W.heap.size W w' := by
  have AW : Hid (Ret 9 #[] (.bool true)) := awake17
  obtain ⟨_, _, e1, hl0, h9, hpl, ot, hf⟩ := lmy_zero hE
  obtain rfl := Int.ofNat_inj.1 e1
  have HRt : Hid (∀ w, Below W.heap.size W w → Calls Try.prog 18 #[.slice a t.length cap] w fun e w' => ∃ a' cap', e = .returned (.slice a' t.length cap') ∧ ERow w' a' t ∧ Below w.heap.size w w') := fun w hb => ref_row a cap t (by omega) w (ha.below hb)
  have HRA : Hid (∀ (w : World) (a' : Option Addr) (cap' : Nat), ERow w a' t → Calls Try.prog 17 #[.int .i64 (k : Int), .slice a' t.length cap', .agg #[.int .u64 (x.1 : Int), .int .u64 (x.2 : Int)]] w fun e w' => e = .returned (.agg #[.int .u64 ((atv t x).1 : Int), .int .u64 ((atv t x).2 : Int)]) ∧ Below w.heap.size w w') := fun w a' cap' hw => by
    have := rat_ok k hk a' cap' t x ht hx hl0 h9 hpl w hw
    rw [nvv_atv ht x (show t.length = t.length - 1 + 1 by omega) (by omega)] at this
    exact this
  have HA : Hid (∀ w, Below W.heap.size W w → Calls Try.prog 10 #[.int .i64 (k : Int), .slice a t.length cap, .agg #[.int .u64 (x.1 : Int), .int .u64 (x.2 : Int)]] w fun e w' => e = .returned (.tuple #[.agg #[.int .u64 ((atv t x).1 : Int), .int .u64 ((atv t x).2 : Int)], .int .i64 0]) ∧ Below w.heap.size w w') := fun w hb => lat_ok k hk a cap t x ht hx hl0 h9 hf ot ox w (ha.below hb)
  have HO : Hid (Ret 12 #[.int .i64 (k : Int), .agg #[.int .u64 (x.1 : Int), .int .u64 (x.2 : Int)]] (.bool true)) := by
    have := rof_any (k : Int) x.1 x.2 hx.1 hx.2
    rw [show ofB (k : Int) (x.1 : Int) (x.2 : Int) = true from ox] at this; exact this
  generalize atv t x = y at *
  have HM : Hid (∀ w, Below W.heap.size W w → Calls Try.prog 11 #[.int .i64 (k : Int), .slice a t.length cap] w fun e w' => e = .returned (.int .i64 0) ∧ Below w.heap.size w w') := fun w hb => by
    have := lmay (k : Int) a cap t ht (by omega) w (ha.below hb)
    rw [hE] at this; exact this
  have HEn : Hid (∀ w, Below W.heap.size W w → Calls Try.prog 14 #[.slice a t.length cap] w fun e w' => e = .returned (.agg #[.int .u64 ((ends t).1 : Int), .int .u64 ((ends t).2 : Int)]) ∧ Below w.heap.size w w') := fun w hb => lends a cap t ht (by omega) w (ha.below hb) hcap
  have HF1 : Hid (Ret 15 #[.int .i64 (k : Int), .int .i64 ((t.length : Int) - 1)] (.bool (fitB (k : Int) ((t.length : Int) - 1)))) := lfits _ _
  have HF2 : Hid (Ret 16 #[.int .i64 (k : Int), .int .i64 ((t.length : Int) - 1)] (.bool (fitB (k : Int) ((t.length : Int) - 1)))) := rfits _ _
  have gw : IntKind.i64.wrap ((t.length : Int) - 1) = (t.length : Int) - 1 := by rw [IntKind.wrap_i64]; omega
  have g12 : ¬ (12 : Int) < (t.length : Int) := by omega
  have HT : Hid (ERow W a t ∧ ltE t ∧ t.length ≤ 12) := ⟨ha, ht, h12⟩
  have X0 : Hid (El (W.alloc (Obj.cells #[.int .u64 (x.1 : Int), .int .u64 (x.2 : Int)] 25)) W.heap.size x.1 x.2 ∧ Below W.heap.size W (W.alloc (Obj.cells #[.int .u64 (x.1 : Int), .int .u64 (x.2 : Int)] 25))) := ⟨⟨by simp [go_sem], by simp [go_sem]⟩, by go_grown⟩
  clear ha ht hcap hE ot hf hpl h9 e1 hl0 ox hx
  generalize fitB (k : Int) ((t.length : Int) - 1) = f at *
  go_enter Try.func3, Try.ntmps3
  go_wp2_with (first | (go_at_call 10; refine (HA.out _ X0.out.2).mono ?_; rintro e w1 ⟨rfl, hb1⟩; have X1 : Hid ((El (w1.alloc (Obj.cells #[.int .u64 (y.1 : Int), .int .u64 (y.2 : Int)] 25)) W.heap.size x.1 x.2 ∧ El (w1.alloc (Obj.cells #[.int .u64 (y.1 : Int), .int .u64 (y.2 : Int)] 25)) w1.heap.size y.1 y.2) ∧ Below W.heap.size W (w1.alloc (Obj.cells #[.int .u64 (y.1 : Int), .int .u64 (y.2 : Int)] 25)) ∧ W.heap.size < w1.heap.size) := ⟨⟨(X0.out.1.below hb1).alloc _, lel_new w1 y _⟩, (X0.out.2.trans (hb1.mono X0.out.2.size)).alloc (X0.out.2.trans (hb1.mono X0.out.2.size)).size _, (X0.out.1.below hb1).lt⟩; clear hb1; have x1 := X1.out.1.1.hi; have x0 := X1.out.1.1.lo) | (go_at_call 11; refine (HM.out _ X1.out.2.1).mono ?_; rintro e w2 ⟨rfl, hb2⟩; have X2 : Hid ((El w2 W.heap.size x.1 x.2 ∧ El w2 w1.heap.size y.1 y.2) ∧ Below W.heap.size W w2 ∧ W.heap.size < w1.heap.size) := ⟨⟨X1.out.1.1.below hb2, X1.out.1.2.below hb2⟩, X1.out.2.1.trans (hb2.mono X1.out.2.1.size), X1.out.2.2⟩; clear hb2 x1 x0; have x1 := X2.out.1.1.hi; have x0 := X2.out.1.1.lo) | (go_at_call 12; refine (HO.out.go _).mono ?_; rintro e w3 ⟨rfl, hb3⟩; have X3 : Hid ((El w3 W.heap.size x.1 x.2 ∧ El w3 w1.heap.size y.1 y.2) ∧ Below W.heap.size W w3 ∧ W.heap.size < w1.heap.size) := ⟨⟨X2.out.1.1.below hb3, X2.out.1.2.below hb3⟩, X2.out.2.1.trans (hb3.mono X2.out.2.1.size), X2.out.2.2⟩; clear hb3 x1 x0))
  have KL : Lv W (w3.alloc (Obj.cells #[.int .u64 0, .int .u64 0] 32)) w1.heap.size w3.heap.size x y (0, 0) := by
    have hd := X3.out.2.1
    have hy := X3.out.1.2.lt
    exact ⟨X3.out.1.1.alloc _, X3.out.1.2.alloc _, Ew.roomN w3 32, hd.alloc hd.size _, X3.out.1.1.lt, by omega⟩
  (try clear x1 x0)
  clear X0 X1 X2 X3 HA HM HO
  generalize (w3.alloc (Obj.cells #[.int .u64 0, .int .u64 0] 32)) = w5 at *
  generalize w3.heap.size = qe at *
  generalize w1.heap.size = qy at *
  go_loopw [11] (fun u wr => ∃ j : Nat, j ≤ t.length ∧ j ≤ 2 ∧ u = .int .i64 j ∧ Lv W wr qy qe x y (xsum (t.take j))) (fun u _ => 3 - (intOf u).toNat)
  case atStart => exact ⟨0, Nat.zero_le _, Nat.zero_le _, rfl, KL⟩
  case round =>
    obtain ⟨j, hj, hj2, rfl, K⟩ := hrel
    clear KL
    by_cases hlt : j < t.length ∧ j < 2
    · obtain ⟨b, off, rfl, hb, c1, c0⟩ := HT.out.1.cells j hlt.1
      have b0 : (j : Int) < (t.length : Int) := by omega
      have b1 : (j : Int) < 2 := by omega
      have b2 : (0 : Int) ≤ (j : Int) := by omega
      have HN : Hid (xsum (t.take (j + 1)) = xa (xsum (t.take j)) (t.getD j (0, 0))) := by show _ = _; rw [take_sn t j hlt.1, xsum_snoc]; rfl
      have H1 := Hid.mkN (lradd (xsum (t.take j)) (t.getD j (0, 0)) (xsum_lt t HT.out.2.1 j) (HT.out.2.1.at j))
      have HC : Hid (W.cell? ⟨b, off + j * 2, none⟩ = some (.int .u64 ((t.getD j (0, 0)).1 : Int)) ∧ W.cell? ⟨b, off + j * 2 + 1, none⟩ = some (.int .u64 ((t.getD j (0, 0)).2 : Int))) := ⟨c1, c0⟩
      clear c1 c0 hb
      generalize t.getD j (0, 0) = v at *
      generalize xsum (t.take j) = s at *
      rw [← HN.out] at H1
      obtain ⟨z, hz⟩ : ∃ z, z = xsum (t.take (j + 1)) := ⟨_, rfl⟩
      rw [← hz] at H1
      have HZ : Hid (z = xsum (t.take (j + 1))) := hz
      clear hz HN
      go_upto_region 11 with fail
      refine wp_region_noPanic ?_
      refine wp_region_peel (S := fun w => w.cell? ⟨qe, 0, none⟩ = some (.int .u64 (s.1 : Int)) ∧ w.cell? ⟨qe, 1, none⟩ = some (.int .u64 (s.2 : Int)) ∧ w.cell? ⟨b, off + j * 2, none⟩ = some (.int .u64 (v.1 : Int)) ∧ w.cell? ⟨b, off + j * 2 + 1, none⟩ = some (.int .u64 (v.2 : Int))) 6 (by kernel_rfl) rfl (by kernel_rfl) ?_ (fun hHeld => ?_)
      · exact ⟨K.s.hi, K.s.lo, keepc K.d HC.out.1, keepc K.d HC.out.2⟩
      refine wpAnyH_take (i := 0) (oi := _) (v := ?_) rfl (by kernel_rfl) (by kernel_rfl) (by kernel_rfl) (fun _ _ _ h => h) (Or.inl ⟨by rfl, ?_⟩) (by assumption) ?_
      rotate_left
      · ((intro w hSw; (try dsimp only at hSw); go_simp) <;> (try with_reducible rfl))
      try simp only [Act.put]
      refine wpAnyH_take (i := 1) (oi := _) (v := ?_) rfl (by kernel_rfl) (by kernel_rfl) (by kernel_rfl) (fun _ _ _ h => h) (Or.inl ⟨by rfl, ?_⟩) (by assumption) ?_
      rotate_left
      · ((intro w hSw; (try dsimp only at hSw); go_simp) <;> (try with_reducible rfl))
      try simp only [Act.put]
      refine wpAnyH_take (i := 2) (oi := _) (v := ?_) rfl (by kernel_rfl) (by kernel_rfl) (by kernel_rfl) (fun _ _ _ h => h) (Or.inl ⟨by rfl, ?_⟩) (by assumption) ?_
      rotate_left
      · ((intro w hSw; (try dsimp only at hSw); go_simp) <;> (try with_reducible rfl))
      try simp only [Act.put]
      refine wpAnyH_take (i := 3) (oi := _) (v := ?_) rfl (by kernel_rfl) (by kernel_rfl) (by kernel_rfl) (fun _ _ _ h => h) (Or.inl ⟨by rfl, ?_⟩) (by assumption) ?_
      rotate_left
      · ((intro w hSw; (try dsimp only at hSw); go_simp) <;> (try with_reducible rfl))
      try simp only [Act.put]
      refine wpAnyH_take (i := 4) (oi := _) (v := ?_) rfl (by kernel_rfl) (by kernel_rfl) (by kernel_rfl) (fun _ _ _ h => h) (Or.inl ⟨by rfl, ?_⟩) (by assumption) ?_
      rotate_left
      · ((intro w hSw; (try dsimp only at hSw); go_simp) <;> (try with_reducible rfl))
      try simp only [Act.put]
      refine wpAnyH_ready (rs := [5]) (by kernel_rfl) (by simp) ?_
      refine AllReadyH.cons (o := _) rfl (fun KK hKK => ?_) AllReadyH.nil
      go_simp
      (go_at_call 13; refine (H1.out.go _).mono ?_; rintro e w' ⟨rfl, hb'⟩)
      have K'' := Lv.below (w' := w') (by first | exact K | exact K.drew) hb'
      clear K hb'
      have K := K''
      clear K''
      refine hKK.out _ _ ?_ (fun hHeld => ?_)
      · exact ⟨K.s.hi, K.s.lo, keepc K.d HC.out.1, keepc K.d HC.out.2⟩
      clear hKK KK
      try simp only [Act.put]
      refine wpAnyH_done (by kernel_rfl) ?_ _
      refine peel_last rfl (fun KK hKK => ?_)
      clear hHeld
      obtain ⟨⟨s1, s0⟩, z1, z0⟩ := K.s
      go_simp
      refine hKK _ _ ?_
      refine NoPanic.normal ?_
      clear hKK KK
      clear s1 s0 z1 z0
      have KP : Hid (Lv W _ qy qe x y z) := K.put z
      clear K
      go_wp2
      exact ⟨⟨j + 1, hlt.1, by omega, by simp, by rw [← HZ.out]; exact KP.out⟩, by simp [intOf]; omega⟩
    · have hse : xsum (t.take j) = ends t := by
        unfold ends
        by_cases h : j = 2
        · rw [h]
        · rw [List.take_of_length_le (show t.length ≤ j by omega), List.take_of_length_le (show t.length ≤ 2 by omega)]
      rw [hse] at K
      clear hse HT
      generalize ends t = s at *
      have KH : Hid (Lv W wr qy qe x y s) := K
      clear K
      obtain hc | ⟨hc, hc2⟩ : (¬ ((j : Int) < (t.length : Int))) ∨ (((j : Int) < (t.length : Int)) ∧ ¬ ((j : Int) < 2)) := by omega
      all_goals
        go_upto_region 12 with fail
        obtain ⟨O, hO⟩ : ∃ O : Hid (Lv W wr qy qe x y s), True := ⟨KH, trivial⟩
        clear hO KH
        have F : _ ∧ _ := ⟨O.out.s.hi, O.out.s.lo⟩
        go_region_held3 (fun w => w.cell? ⟨qe, 0, none⟩ = some (.int .u64 (s.1 : Int)) ∧ w.cell? ⟨qe, 1, none⟩ = some (.int .u64 (s.2 : Int))) (first | (go_keep; done) | exact ⟨O.out.s.hi, O.out.s.lo⟩) (first | (go_at_call 14; refine (HEn.out _ (by first | exact O.out.d | exact O.out.drew.d)).mono ?_; rintro e w' ⟨rfl, hb'⟩; have O' := Hid.mkN (Lv.below (w' := w') (by first | exact O.out | exact O.out.drew) hb'); clear F O hb'; have O := O'; clear O'; have F : _ ∧ _ := ⟨O.out.s.hi, O.out.s.lo⟩) | (go_at_call 15; refine (HF1.out.go _).mono ?_; rintro e w' ⟨rfl, hb'⟩; have O' := Hid.mkN (Lv.below (w' := w') (by first | exact O.out | exact O.out.drew) hb'); clear F O hb'; have O := O'; clear O'; have F : _ ∧ _ := ⟨O.out.s.hi, O.out.s.lo⟩) | (go_at_call 16; refine (HF2.out.go _).mono ?_; rintro e w' ⟨rfl, hb'⟩; have O' := Hid.mkN (Lv.below (w' := w') (by first | exact O.out | exact O.out.drew) hb'); clear F O hb'; have O := O'; clear O'; have F : _ ∧ _ := ⟨O.out.s.hi, O.out.s.lo⟩))
        go_wp2_with fail
        clear F
        have F := O.out.facts
        go_region_held3 (fun w => w.cell? ⟨W.heap.size, 0, none⟩ = some (.int .u64 (x.1 : Int)) ∧ w.cell? ⟨W.heap.size, 1, none⟩ = some (.int .u64 (x.2 : Int)) ∧ w.cell? ⟨qy, 0, none⟩ = some (.int .u64 (y.1 : Int)) ∧ w.cell? ⟨qy, 1, none⟩ = some (.int .u64 (y.2 : Int)) ∧ w.cell? ⟨qe, 0, none⟩ = some (.int .u64 (s.1 : Int)) ∧ w.cell? ⟨qe, 1, none⟩ = some (.int .u64 (s.2 : Int))) (first | (go_keep; done) | exact O.out.facts | exact O.out.drew.facts) (first | (go_at_call 9; refine (AW.out.go _).mono ?_; rintro e w' ⟨rfl, hb'⟩; have O' := Hid.mkN (Lv.below (w' := w') (by first | exact O.out | exact O.out.drew) hb'); clear F O; have O := O'; clear O'; have F := O.out.facts; clear hb') | (go_at_call 18; refine (HRt.out _ (by first | exact O.out.d | exact O.out.drew.d)).mono ?_; rintro e w' ⟨aR, cR, rfl, hRr, hb'⟩; have HRr : Hid (ERow w' aR t) := hRr; clear hRr; have O' := Hid.mkN (Lv.below (w' := w') (by first | exact O.out | exact O.out.drew) hb'); clear F O; have O := O'; clear O'; have F := O.out.facts; clear hb') | (go_at_call 17; refine (HRA.out _ aR cR (by first | exact HRr.out | exact HRr.out.drew)).mono ?_; rintro e w' ⟨rfl, hb'⟩; clear HRr; have O' := Hid.mkN (Lv.below (w' := w') (by first | exact O.out | exact O.out.drew) hb'); clear F O; have O := O'; clear O'; have F := O.out.facts; clear hb'))
        go_wp2
        go_ret
        exact ⟨rfl, O.out.d⟩
set_option maxHeartbeats 4000000 in
set_option maxRecDepth 100000 in
theorem lv_any (l : Int) (a : Option Addr) (cap : Nat) (t : List (Nat × Nat)) (x : Nat × Nat) (ht : ltE t) (hx : lt2 x) (hcap : t.length ≤ cap) (W : World) (ha : ERow W a t) :
    Calls Try.prog 3 #[.int .i64 l, .slice a t.length cap, .agg #[.int .u64 (x.1 : Int), .int .u64 (x.2 : Int)]] W fun e w' => e = .returned (.bool true) ∧ Below W.heap.size W w' := by
  by_cases h12 : t.length ≤ 12
  · by_cases hE : lmy l t = 0
    · by_cases ho : ofB l (x.1 : Int) (x.2 : Int) = true
      · obtain ⟨k, hk, rfl, _, _, _, _, _⟩ := lmy_zero hE
        exact lv_3 k hk a cap t x ht hx h12 hcap hE ho W ha
      · exact lv_2 l a cap t x ht hx h12 hcap hE (Bool.not_eq_true _ ▸ ho) W ha
    · exact lv_1 l a cap t x ht hx h12 hcap _ rfl hE W ha
  · have AW : Hid (Ret 9 #[] (.bool true)) := awake17
    have g12 : (12 : Int) < (t.length : Int) := by omega
    have X0 : Hid (Below W.heap.size W (W.alloc (Obj.cells #[.int .u64 (x.1 : Int), .int .u64 (x.2 : Int)] 25))) := by show Below _ _ _; go_grown
    clear ht ha hcap
    go_enter Try.func3, Try.ntmps3
    go_wp2_with (go_at_call 9; refine (AW.out.go _).mono ?_; rintro e w2 ⟨rfl, hb2⟩)
    go_ret
    exact ⟨rfl, X0.out.trans (hb2.mono X0.out.size)⟩
end Go.Proofs.Ytcnbaoijgfaljaa
