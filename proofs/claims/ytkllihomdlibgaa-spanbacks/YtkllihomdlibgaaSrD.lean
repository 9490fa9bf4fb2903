/- The walk of steeplelaw04.SpanBacks over the seat's translation. -/
import Derived.Test.YtkllihomdlibgaaSrC
import Derived.Test.YtkllihomdlibgaaSqS
namespace Go.Proofs.Ytkllihomdlibgaa
open Go.RowKit
open Cb Rg Sq

/-- What the law holds: the way back. -/
structure Sk (W w : World) (g : Nat) (B : List (Nat × Nat)) : Prop where
  d : Below W.heap.size W w
  b : ERow w (some ⟨g, 0, none⟩) B
theorem Sk.below {W w w' : World} {g : Nat} {B : List (Nat × Nat)} (h : Sk W w g B) (hb : Below w.heap.size w w') : Sk W w' g B := ⟨h.d.trans (hb.mono h.d.size), h.b.below hb⟩
theorem Sk.drew {W w : World} {g : Nat} {B : List (Nat × Nat)} (h : Sk W w g B) : Sk W w.drew g B := h.below (Below.refl _ _).drew
theorem ap_zero {m : List (Nat × Nat)} {x : Nat × Nat} (h : m.length ≤ 128) (hl : lngE x ≤ m.length) : apE m x = 0 ∧ apV m x = mdv m.length m x := by
  have e : apE m x = 0 := by unfold apE; rw [if_neg (by omega), if_neg (by omega)]
  exact ⟨e, by unfold apV; rw [if_pos e]⟩
set_option maxHeartbeats 4000000 in
set_option maxRecDepth 100000 in
theorem sbk_far (s0 : Option Addr) (cap0 N : Nat) (h : (20 < N ∧ N ≤ 128) ∨ 200 < N) : Ret 7 #[.slice s0 N cap0] (.bool true) := by
  intro W
  have HA := hidT awake04
  rcases h with h | h
  · have k1 : (20 : Int) < (N : Int) := by omega
    have k2 : (N : Int) ≤ 128 := by omega
    clear h
    go_enter Try.func7, Try.ntmps7
    go_wp2_with (go_at_call 9; refine (HA.out.go _).mono ?_; rintro e w4 ⟨rfl, hb4⟩; have D4 := hidT hb4; clear hb4)
    go_ret
    exact ⟨rfl, D4.out⟩
  · have k1 : (20 : Int) < (N : Int) := by omega
    have k2 : ¬ (N : Int) ≤ 128 := by omega
    have k3 : (200 : Int) < (N : Int) := by omega
    clear h
    go_enter Try.func7, Try.ntmps7
    go_wp2_with (go_at_call 9; refine (HA.out.go _).mono ?_; rintro e w4 ⟨rfl, hb4⟩; have D4 := hidT hb4; clear hb4)
    go_ret
    exact ⟨rfl, D4.out⟩
theorem ref_can (s0 : Option Addr) (cap0 : Nat) (m : List (Nat × Nat)) (hn : m.length ≤ 200) (W : World) (h0 : ERow W s0 m) : ∀ w, Below W.heap.size W w → Calls Try.prog 11 #[.slice s0 m.length cap0] w fun e w' => ∃ a c, e = .returned (.slice a m.length c) ∧ ERow w' a m ∧ Below w.heap.size w w' := fun w hw => (sref_own s0 cap0 m (by omega) w (h0.below hw)).mono fun e w' ⟨a, c, e1, o, e3⟩ => by
  obtain ⟨a', c', e', r⟩ := own_row o
  injection e' with e' _ _; subst e'
  exact ⟨a, c, e1, r, e3⟩
set_option maxHeartbeats 8000000 in
set_option maxRecDepth 100000 in
theorem sbk_err (s0 : Option Addr) (cap0 : Nat) (m : List (Nat × Nat)) (hm : ltE m) (hn : m.length ≤ 20 ∨ (128 < m.length ∧ m.length ≤ 200)) (hE : ¬ bkE m = 0) (W : World) (h0 : ERow W s0 m) :
    Calls Try.prog 7 #[.slice s0 m.length cap0] W fun e w' => e = .returned (.bool true) ∧ Below W.heap.size W w' := by
  have HA := hidT awake04
  have H1 := hidT (back_err s0 cap0 m hm hE W h0)
  have H2 := hidT (ref_can s0 cap0 m (by omega) W h0)
  have H3 : Hid (∀ w a c, ERow w a m → Calls Try.prog 30 #[.slice a m.length c] w fun e w' => e = .returned (.int .i64 (bkE m)) ∧ Below w.heap.size w w') := fun w a c h => rcan a c m hm w h
  clear hm h0
  generalize bkE m = E at *
  generalize m.length = N at *
  rcases hn with h | ⟨h, h'⟩
  · have k1 : ¬ (20 : Int) < (N : Int) := by omega
    have k2 : ¬ (200 : Int) < (N : Int) := by omega
    clear h
    go_enter Try.func7, Try.ntmps7
    go_wp2_with (first
      | (go_at_call 29; refine H1.out.mono ?_; rintro e w1 ⟨rfl, hb1⟩; have D1 := hidT hb1; clear hb1 H1)
      | (go_at_call 11; refine (H2.out _ D1.out).mono ?_; rintro e w2 ⟨a2, c2, rfl, hr2, hb2⟩; have R2 := hidT hr2; have D2 := hidT (D1.out.trans (hb2.mono D1.out.size)); clear hr2 hb2 H2 D1)
      | (go_at_call 30; refine (H3.out _ _ _ R2.out).mono ?_; rintro e w3 ⟨rfl, hb3⟩; have D3 := hidT (D2.out.trans (hb3.mono D2.out.size)); clear hb3 H3 R2 D2)
      | (go_at_call 9; refine (HA.out.go _).mono ?_; rintro e w4 ⟨rfl, hb4⟩; have D4 := hidT (D3.out.trans (hb4.mono D3.out.size)); clear hb4 D3))
    go_ret
    exact ⟨rfl, D4.out⟩
  · have k1 : (20 : Int) < (N : Int) := by omega
    have k2 : ¬ (200 : Int) < (N : Int) := by omega
    have k3 : ¬ (N : Int) ≤ 128 := by omega
    clear h h'
    go_enter Try.func7, Try.ntmps7
    go_wp2_with (first
      | (go_at_call 29; refine H1.out.mono ?_; rintro e w1 ⟨rfl, hb1⟩; have D1 := hidT hb1; clear hb1 H1)
      | (go_at_call 11; refine (H2.out _ D1.out).mono ?_; rintro e w2 ⟨a2, c2, rfl, hr2, hb2⟩; have R2 := hidT hr2; have D2 := hidT (D1.out.trans (hb2.mono D1.out.size)); clear hr2 hb2 H2 D1)
      | (go_at_call 30; refine (H3.out _ _ _ R2.out).mono ?_; rintro e w3 ⟨rfl, hb3⟩; have D3 := hidT (D2.out.trans (hb3.mono D2.out.size)); clear hb3 H3 R2 D2)
      | (go_at_call 9; refine (HA.out.go _).mono ?_; rintro e w4 ⟨rfl, hb4⟩; have D4 := hidT (D3.out.trans (hb4.mono D3.out.size)); clear hb4 D3))
    go_ret
    exact ⟨rfl, D4.out⟩
set_option maxHeartbeats 16000000 in
set_option maxRecDepth 100000 in
theorem sbk_ok (s0 : Option Addr) (cap0 : Nat) (m : List (Nat × Nat)) (hw : Wh m) (hn : m.length ≤ 20) (W : World) (h0 : ERow W s0 m) (hz : bkE m = 0) :
    Calls Try.prog 7 #[.slice s0 m.length cap0] W fun e w' => e = .returned (.bool true) ∧ Below W.heap.size W w' := by
  have HA := hidT awake04
  have H1 := hidT (back_ok s0 cap0 m hw W h0)
  have H2 := hidT (ref_can s0 cap0 m (by omega) W h0)
  have H3 : Hid (∀ w a c, ERow w a m → Calls Try.prog 30 #[.slice a m.length c] w fun e w' => e = .returned (.int .i64 0) ∧ Below w.heap.size w w') := fun w a c h => by
    have := rcan a c m hw.lt w h
    rwa [hz] at this
  have hl : (bkL m).length = m.length := bkL_len m
  have A1 : Hid (∀ i, i < m.length → ∀ w g c, ERow w (some ⟨g, 0, none⟩) (bkL m) → Calls Try.prog 25 #[.slice (some ⟨g, 0, none⟩) m.length c, .agg #[.int .u64 ((el m i).1 : Int), .int .u64 ((el m i).2 : Int)]] w fun e w' => e = .returned (.tuple #[.agg #[.int .u64 ((bv (i : Int)).1 : Int), .int .u64 ((bv (i : Int)).2 : Int)], .int .i64 0]) ∧ Below w.heap.size w w') := fun i hi w g c h => by
    have k := apply_all (some ⟨g, 0, none⟩) c (bkL m) (el m i) (lt_bkL hw.lt) (ltE_el hw.lt i) w h
    obtain ⟨e1, e2⟩ := ap_zero (m := bkL m) (x := el m i) (by rw [hl]; exact hw.le) (by rw [hl]; exact hw.fit i)
    rw [e1, e2, hl, hw.back hi] at k
    exact k
  have A2 : Hid (∀ i, i < m.length → ∀ w g c, ERow w (some ⟨g, 0, none⟩) (bkL m) → Calls Try.prog 25 #[.slice (some ⟨g, 0, none⟩) m.length c, .agg #[.int .u64 ((bv (i : Int)).1 : Int), .int .u64 ((bv (i : Int)).2 : Int)]] w fun e w' => e = .returned (.tuple #[.agg #[.int .u64 ((bk m i).1 : Int), .int .u64 ((bk m i).2 : Int)], .int .i64 0]) ∧ Below w.heap.size w w') := fun i hi w g c h => by
    have k := apply_all (some ⟨g, 0, none⟩) c (bkL m) (bv (i : Int)) (lt_bkL hw.lt) (bv_lt2 _) w h
    obtain ⟨e1, e2⟩ := ap_zero (m := bkL m) (x := bv (i : Int)) (by rw [hl]; exact hw.le) (by rw [hl]; exact bv_lng hi hw.le)
    rw [e1, e2, hl, mdv_bv _ hi hw.le, bkL_at m hi] at k
    exact k
  have A3 : Hid (∀ i, i < m.length → ∀ w, Below W.heap.size W w → Calls Try.prog 25 #[.slice s0 m.length cap0, .agg #[.int .u64 ((bk m i).1 : Int), .int .u64 ((bk m i).2 : Int)]] w fun e w' => e = .returned (.tuple #[.agg #[.int .u64 ((bv (i : Int)).1 : Int), .int .u64 ((bv (i : Int)).2 : Int)], .int .i64 0]) ∧ Below w.heap.size w w') := fun i hi w hb => by
    have k := apply_all s0 cap0 m (bk m i) hw.lt (lt_bk hw.lt i) w (h0.below hb)
    obtain ⟨e1, e2⟩ := ap_zero (m := m) (x := bk m i) hw.le (hw.long i)
    rw [e1, e2, hw.to hi] at k
    exact k
  have HBt : Hid (∀ i : Nat, Ret 31 #[.int .i64 (i : Int)] (.agg #[.int .u64 ((bv (i : Int)).1 : Int), .int .u64 ((bv (i : Int)).2 : Int)])) := fun i => bit_any (i : Int)
  have HC := hidT h0
  have k1 : ¬ (20 : Int) < (m.length : Int) := by omega
  have k2 : ¬ (200 : Int) < (m.length : Int) := by omega
  clear hw h0 hz hl
  generalize bkL m = B at *
  generalize hN : m.length = N at *
  have HNL : Hid (m.length = N) := hN
  clear hN
  go_enter Try.func7, Try.ntmps7
  go_wp2_with (first
    | (go_at_call 29; refine H1.out.mono ?_; rintro e w1 ⟨g, rfl, hr1, hb1⟩; have K1 : Hid (Sk W w1 g B) := ⟨hb1, hr1⟩; clear hr1 hb1 H1)
    | (go_at_call 11; refine (H2.out _ K1.out.d).mono ?_; rintro e w2 ⟨a2, c2, rfl, hr2, hb2⟩; have R2 := hidT hr2; have K2 := hidT (K1.out.below hb2); clear hr2 hb2 H2 K1)
    | (go_at_call 30; refine (H3.out _ _ _ R2.out).mono ?_; rintro e w3 ⟨rfl, hb3⟩; have K3 := hidT (K2.out.below hb3); clear hb3 H3 R2 K2))
  go_loopw [5] (fun u wr => ∃ i : Nat, i ≤ N ∧ u = .int .i64 i ∧ Hid (Sk W wr g B)) (fun u _ => N - (intOf u).toNat)
  case atStart => exact ⟨0, Nat.zero_le _, rfl, K3⟩
  case round =>
    obtain ⟨i, hi, rfl, HK⟩ := hrel
    clear K3
    by_cases hlt : i < N
    · obtain ⟨b, off, rfl, hb, f1, f0⟩ := HC.out.cells i (by rw [HNL.out]; exact hlt)
      have x1 : wr.cell? ⟨b, off + i * 2, none⟩ = some (.int .u64 ((el m i).1 : Int)) := keepc HK.out.d f1
      have x0 : wr.cell? ⟨b, off + i * 2 + 1, none⟩ = some (.int .u64 ((el m i).2 : Int)) := keepc HK.out.d f0
      have P1 := hidT (A1.out i hlt)
      have P2 := hidT (A2.out i hlt)
      have P3 := hidT (A3.out i hlt)
      have HBi := hidT (HBt.out i)
      have i1 : (i : Int) < (N : Int) := by omega
      have i0 : (0 : Int) ≤ (i : Int) := by omega
      clear hb f1 f0 A1 A2 A3 HBt HC
      generalize el m i = x at *
      generalize bk m i = z at *
      generalize bv (i : Int) = y at *
      go_upto_region 12 with (go_at_call 25; refine (P1.out _ _ _ HK.out.b).mono ?_; rintro e w4 ⟨rfl, hb4⟩; have K4 := hidT (HK.out.below hb4); clear hb4 HK x1 x0 P1)
      have K5 : Hid (Sk W (w4.alloc (Obj.cells #[.int .u64 (y.1 : Int), .int .u64 (y.2 : Int)] 25)) g B ∧ El (w4.alloc (Obj.cells #[.int .u64 (y.1 : Int), .int .u64 (y.2 : Int)] 25)) w4.heap.size y.1 y.2) := ⟨K4.out.below (by go_grown), ⟨by simp [go_sem], by simp [go_sem]⟩⟩
      clear K4
      generalize w4.alloc (Obj.cells #[.int .u64 (y.1 : Int), .int .u64 (y.2 : Int)] 25) = w5 at *
      generalize w4.heap.size = g6 at *
      go_upto_region 13 with (first
        | (go_at_call 31; refine (HBi.out.go _).mono ?_; rintro e w6 ⟨rfl, hb6⟩; have K6 : Hid (Sk W w6 g B ∧ El w6 g6 y.1 y.2) := ⟨K5.out.1.below hb6, K5.out.2.below hb6⟩; clear hb6 K5)
        | (go_at_call 25; refine (P2.out _ _ _ K6.out.1.b).mono ?_; rintro e w7 ⟨rfl, hb7⟩; have K7 : Hid (Sk W w7 g B ∧ El w7 g6 y.1 y.2) := ⟨K6.out.1.below hb7, K6.out.2.below hb7⟩; clear hb7 K6 P2))
      have B7 : Below w7.heap.size w7 (w7.alloc (Obj.cells #[.int .u64 (z.1 : Int), .int .u64 (z.2 : Int)] 25)) := by go_grown
      have K8 : Hid (Sk W (w7.alloc (Obj.cells #[.int .u64 (z.1 : Int), .int .u64 (z.2 : Int)] 25)) g B ∧ El (w7.alloc (Obj.cells #[.int .u64 (z.1 : Int), .int .u64 (z.2 : Int)] 25)) g6 y.1 y.2 ∧ El (w7.alloc (Obj.cells #[.int .u64 (z.1 : Int), .int .u64 (z.2 : Int)] 25)) w7.heap.size z.1 z.2) := ⟨K7.out.1.below B7, K7.out.2.below B7, ⟨by simp [go_sem], by simp [go_sem]⟩⟩
      clear K7 B7
      generalize w7.alloc (Obj.cells #[.int .u64 (z.1 : Int), .int .u64 (z.2 : Int)] 25) = w8 at *
      generalize w7.heap.size = g8 at *
      have z1 := K8.out.2.2.hi
      have z0 := K8.out.2.2.lo
      go_upto_region 14 with (go_at_call 25; refine (P3.out _ K8.out.1.d).mono ?_; rintro e w9 ⟨rfl, hb9⟩; have K9 : Hid (Sk W w9 g B ∧ El w9 g6 y.1 y.2) := ⟨K8.out.1.below hb9, K8.out.2.1.below hb9⟩; clear hb9 K8 P3 z1 z0)
      have B9 : Below w9.heap.size w9 ((w9.alloc (Obj.cells #[.int .u64 (y.1 : Int), .int .u64 (y.2 : Int)] 25))).drew := ((Below.refl _ _).alloc (Nat.le_refl _) _).drew
      have K : Hid (Sk W (w9.alloc (Obj.cells #[.int .u64 (y.1 : Int), .int .u64 (y.2 : Int)] 25)).drew g B ∧ El (w9.alloc (Obj.cells #[.int .u64 (y.1 : Int), .int .u64 (y.2 : Int)] 25)).drew g6 y.1 y.2 ∧ El (w9.alloc (Obj.cells #[.int .u64 (y.1 : Int), .int .u64 (y.2 : Int)] 25)).drew w9.heap.size y.1 y.2) := ⟨K9.out.1.below B9, K9.out.2.below B9, ⟨by simp [go_sem], by simp [go_sem]⟩⟩
      clear K9 B9
      generalize w9.alloc (Obj.cells #[.int .u64 (y.1 : Int), .int .u64 (y.2 : Int)] 25) = w10 at *
      generalize w9.heap.size = g10 at *
      refine wp_region_noPanic ?_
      refine wp_region_peel (S := fun w => w.cell? ⟨g6, 0, none⟩ = some (.int .u64 (y.1 : Int)) ∧ w.cell? ⟨g6, 1, none⟩ = some (.int .u64 (y.2 : Int)) ∧ w.cell? ⟨g10, 0, none⟩ = some (.int .u64 (y.1 : Int)) ∧ w.cell? ⟨g10, 1, none⟩ = some (.int .u64 (y.2 : Int))) 21 (by kernel_rfl) rfl (by kernel_rfl) ?_ (fun hHeld => ?_)
      · exact ⟨K.out.2.1.hi, K.out.2.1.lo, K.out.2.2.hi, K.out.2.2.lo⟩
      refine wpAnyH_take (i := 0) (oi := _) (v := ?_) rfl (by kernel_rfl) (by kernel_rfl) (by kernel_rfl) (fun _ _ _ h => h) (Or.inl ⟨by rfl, ?_⟩) (by assumption) ?_
      rotate_left
      · ((intro w hSw; (try dsimp only at hSw); go_simp) <;> (try with_reducible rfl))
      show wpAnyH _ _ _ _ _ _ _ (Act.put _ (some 72) _) _
      simp only [Act.put, List.setIfInBounds_toArray, List.set_cons_succ, List.set_cons_zero]
      refine wpAnyH_take (i := 1) (oi := _) (v := ?_) rfl (by kernel_rfl) (by kernel_rfl) (by kernel_rfl) (fun _ _ _ h => h) (Or.inl ⟨by rfl, ?_⟩) (by assumption) ?_
      rotate_left
      · ((intro w hSw; (try dsimp only at hSw); go_simp) <;> (try with_reducible rfl))
      show wpAnyH _ _ _ _ _ _ _ (Act.put _ (some 73) _) _
      simp only [Act.put, List.setIfInBounds_toArray, List.set_cons_succ, List.set_cons_zero]
      refine wpAnyH_take (i := 2) (oi := _) (v := ?_) rfl (by kernel_rfl) (by kernel_rfl) (by kernel_rfl) (fun _ _ _ h => h) (Or.inl ⟨by rfl, ?_⟩) (by assumption) ?_
      rotate_left
      · ((intro w hSw; (try dsimp only at hSw); go_simp) <;> (try with_reducible rfl))
      show wpAnyH _ _ _ _ _ _ _ (Act.put _ (some 74) _) _
      simp only [Act.put, List.setIfInBounds_toArray, List.set_cons_succ, List.set_cons_zero]
      refine wpAnyH_take (i := 3) (oi := _) (v := ?_) rfl (by kernel_rfl) (by kernel_rfl) (by kernel_rfl) (fun _ _ _ h => h) (Or.inl ⟨by rfl, ?_⟩) (by assumption) ?_
      rotate_left
      · ((intro w hSw; (try dsimp only at hSw); go_simp) <;> (try with_reducible rfl))
      show wpAnyH _ _ _ _ _ _ _ (Act.put _ (some 75) _) _
      simp only [Act.put, List.setIfInBounds_toArray, List.set_cons_succ, List.set_cons_zero]
      refine wpAnyH_take (i := 4) (oi := _) (v := ?_) rfl (by kernel_rfl) (by kernel_rfl) (by kernel_rfl) (fun _ _ _ h => h) (Or.inl ⟨by rfl, ?_⟩) (by assumption) ?_
      rotate_left
      · ((intro w hSw; (try dsimp only at hSw); go_simp) <;> (try with_reducible rfl))
      show wpAnyH _ _ _ _ _ _ _ (Act.put _ (some 76) _) _
      simp only [Act.put, List.setIfInBounds_toArray, List.set_cons_succ, List.set_cons_zero]
      refine wpAnyH_take (i := 5) (oi := _) (v := ?_) rfl (by kernel_rfl) (by kernel_rfl) (by kernel_rfl) (fun _ _ _ h => h) (Or.inl ⟨by rfl, ?_⟩) (by assumption) ?_
      rotate_left
      · ((intro w hSw; (try dsimp only at hSw); go_simp) <;> (try with_reducible rfl))
      show wpAnyH _ _ _ _ _ _ _ (Act.put _ (some 77) _) _
      simp only [Act.put, List.setIfInBounds_toArray, List.set_cons_succ, List.set_cons_zero]
      refine wpAnyH_take (i := 6) (oi := _) (v := ?_) rfl (by kernel_rfl) (by kernel_rfl) (by kernel_rfl) (fun _ _ _ h => h) (Or.inl ⟨by rfl, ?_⟩) (by assumption) ?_
      rotate_left
      · ((intro w hSw; (try dsimp only at hSw); go_simp) <;> (try with_reducible rfl))
      show wpAnyH _ _ _ _ _ _ _ (Act.put _ (some 78) _) _
      simp only [Act.put, List.setIfInBounds_toArray, List.set_cons_succ, List.set_cons_zero]
      refine wpAnyH_take (i := 7) (oi := _) (v := ?_) rfl (by kernel_rfl) (by kernel_rfl) (by kernel_rfl) (fun _ _ _ h => h) (Or.inl ⟨by rfl, ?_⟩) (by assumption) ?_
      rotate_left
      · ((intro w hSw; (try dsimp only at hSw); go_simp) <;> (try with_reducible rfl))
      show wpAnyH _ _ _ _ _ _ _ (Act.put _ (some 79) _) _
      simp only [Act.put, List.setIfInBounds_toArray, List.set_cons_succ, List.set_cons_zero]
      refine wpAnyH_take (i := 8) (oi := _) (v := ?_) rfl (by kernel_rfl) (by kernel_rfl) (by kernel_rfl) (fun _ _ _ h => h) (Or.inl ⟨by rfl, ?_⟩) (by assumption) ?_
      rotate_left
      · ((intro w hSw; (try dsimp only at hSw); go_simp) <;> (try with_reducible rfl))
      show wpAnyH _ _ _ _ _ _ _ (Act.put _ (some 80) _) _
      simp only [Act.put, List.setIfInBounds_toArray, List.set_cons_succ, List.set_cons_zero]
      refine wpAnyH_take (i := 9) (oi := _) (v := ?_) rfl (by kernel_rfl) (by kernel_rfl) (by kernel_rfl) (fun _ _ _ h => h) (Or.inl ⟨by rfl, ?_⟩) (by assumption) ?_
      rotate_left
      · ((intro w hSw; (try dsimp only at hSw); go_simp) <;> (try with_reducible rfl))
      show wpAnyH _ _ _ _ _ _ _ (Act.put _ (some 81) _) _
      simp only [Act.put, List.setIfInBounds_toArray, List.set_cons_succ, List.set_cons_zero]
      refine wpAnyH_take (i := 10) (oi := _) (v := ?_) rfl (by kernel_rfl) (by kernel_rfl) (by kernel_rfl) (fun _ _ _ h => h) (Or.inl ⟨by rfl, ?_⟩) (by assumption) ?_
      rotate_left
      · ((intro w hSw; (try dsimp only at hSw); go_simp) <;> (try with_reducible rfl))
      show wpAnyH _ _ _ _ _ _ _ (Act.put _ (some 82) _) _
      simp only [Act.put, List.setIfInBounds_toArray, List.set_cons_succ, List.set_cons_zero]
      refine wpAnyH_take (i := 11) (oi := _) (v := ?_) rfl (by kernel_rfl) (by kernel_rfl) (by kernel_rfl) (fun _ _ _ h => h) (Or.inl ⟨by rfl, ?_⟩) (by assumption) ?_
      rotate_left
      · ((intro w hSw; (try dsimp only at hSw); go_simp) <;> (try with_reducible rfl))
      show wpAnyH _ _ _ _ _ _ _ (Act.put _ (some 83) _) _
      simp only [Act.put, List.setIfInBounds_toArray, List.set_cons_succ, List.set_cons_zero]
      refine wpAnyH_take (i := 12) (oi := _) (v := ?_) rfl (by kernel_rfl) (by kernel_rfl) (by kernel_rfl) (fun _ _ _ h => h) (Or.inl ⟨by rfl, ?_⟩) (by assumption) ?_
      rotate_left
      · ((intro w hSw; (try dsimp only at hSw); go_simp) <;> (try with_reducible rfl))
      show wpAnyH _ _ _ _ _ _ _ (Act.put _ (some 84) _) _
      simp only [Act.put, List.setIfInBounds_toArray, List.set_cons_succ, List.set_cons_zero]
      refine wpAnyH_ready (rs := [13]) (by kernel_rfl) (by simp) ?_
      refine AllReadyH.cons (o := _) rfl (fun KK hKK => ?_) AllReadyH.nil
      go_simp
      (refine (HBi.out.go _).mono ?_; rintro e w' ⟨rfl, hb'⟩)
      have K'' : Hid (Sk W w' g B ∧ El w' g6 y.1 y.2 ∧ El w' g10 y.1 y.2) := ⟨K.out.1.below hb', K.out.2.1.below hb', K.out.2.2.below hb'⟩; clear K hb'; have K := K''; clear K''
      refine hKK.out _ _ ?_ (fun hHeld => ?_)
      · exact ⟨K.out.2.1.hi, K.out.2.1.lo, K.out.2.2.hi, K.out.2.2.lo⟩
      clear hKK KK
      try simp only [Act.put]
      refine wpAnyH_take (i := 14) (oi := _) (v := ?_) rfl (by kernel_rfl) (by kernel_rfl) (by kernel_rfl) (fun _ _ _ h => h) (Or.inl ⟨by rfl, ?_⟩) (by assumption) ?_
      rotate_left
      · ((intro w hSw; (try dsimp only at hSw); go_simp) <;> (try with_reducible rfl))
      show wpAnyH _ _ _ _ _ _ _ (Act.put _ (some 86) _) _
      simp only [Act.put, List.setIfInBounds_toArray, List.set_cons_succ, List.set_cons_zero]
      refine wpAnyH_take (i := 15) (oi := _) (v := ?_) rfl (by kernel_rfl) (by kernel_rfl) (by kernel_rfl) (fun _ _ _ h => h) (Or.inl ⟨by rfl, ?_⟩) (by assumption) ?_
      rotate_left
      · ((intro w hSw; (try dsimp only at hSw); go_simp) <;> (try with_reducible rfl))
      show wpAnyH _ _ _ _ _ _ _ (Act.put _ (some 87) _) _
      simp only [Act.put, List.setIfInBounds_toArray, List.set_cons_succ, List.set_cons_zero]
      refine wpAnyH_take (i := 16) (oi := _) (v := ?_) rfl (by kernel_rfl) (by kernel_rfl) (by kernel_rfl) (fun _ _ _ h => h) (Or.inl ⟨by rfl, ?_⟩) (by assumption) ?_
      rotate_left
      · ((intro w hSw; (try dsimp only at hSw); go_simp) <;> (try with_reducible rfl))
      show wpAnyH _ _ _ _ _ _ _ (Act.put _ (some 88) _) _
      simp only [Act.put, List.setIfInBounds_toArray, List.set_cons_succ, List.set_cons_zero]
      refine wpAnyH_take (i := 17) (oi := _) (v := ?_) rfl (by kernel_rfl) (by kernel_rfl) (by kernel_rfl) (fun _ _ _ h => h) (Or.inl ⟨by rfl, ?_⟩) (by assumption) ?_
      rotate_left
      · ((intro w hSw; (try dsimp only at hSw); go_simp) <;> (try with_reducible rfl))
      show wpAnyH _ _ _ _ _ _ _ (Act.put _ (some 89) _) _
      simp only [Act.put, List.setIfInBounds_toArray, List.set_cons_succ, List.set_cons_zero]
      refine wpAnyH_take (i := 18) (oi := _) (v := ?_) rfl (by kernel_rfl) (by kernel_rfl) (by kernel_rfl) (fun _ _ _ h => h) (Or.inl ⟨by rfl, ?_⟩) (by assumption) ?_
      rotate_left
      · ((intro w hSw; (try dsimp only at hSw); go_simp) <;> (try with_reducible rfl))
      show wpAnyH _ _ _ _ _ _ _ (Act.put _ (some 90) _) _
      simp only [Act.put, List.setIfInBounds_toArray, List.set_cons_succ, List.set_cons_zero]
      refine wpAnyH_ready (rs := [19]) (by kernel_rfl) (by simp) ?_
      refine AllReadyH.cons (o := _) rfl (fun KK hKK => ?_) AllReadyH.nil
      go_simp
      (refine (HBi.out.go _).mono ?_; rintro e w' ⟨rfl, hb'⟩)
      have K'' : Hid (Sk W w' g B ∧ El w' g6 y.1 y.2 ∧ El w' g10 y.1 y.2) := ⟨K.out.1.below hb', K.out.2.1.below hb', K.out.2.2.below hb'⟩; clear K hb'; have K := K''; clear K''
      refine hKK.out _ _ ?_ (fun hHeld => ?_)
      · exact ⟨K.out.2.1.hi, K.out.2.1.lo, K.out.2.2.hi, K.out.2.2.lo⟩
      clear hKK KK
      try simp only [Act.put]
      refine wpAnyH_take (i := 20) (oi := _) (v := ?_) rfl (by kernel_rfl) (by kernel_rfl) (by kernel_rfl) (fun _ _ _ h => h) (Or.inl ⟨by rfl, ?_⟩) (by assumption) ?_
      rotate_left
      · ((intro w hSw; (try dsimp only at hSw); go_simp) <;> (try with_reducible rfl))
      show wpAnyH _ _ _ _ _ _ _ (Act.put _ (some 92) _) _
      simp only [Act.put, List.setIfInBounds_toArray, List.set_cons_succ, List.set_cons_zero]
      refine wpAnyH_done (by kernel_rfl) ?_ _
      refine peel_last rfl (fun KK hKK => ?_)
      clear hHeld
      clear HBi
      go_simp
      refine hKK _ _ ?_
      refine NoPanic.normal ?_
      clear hKK KK
      have KE := hidT K.out.1
      clear K
      go_wp2
      exact ⟨⟨i + 1, hlt, by simp, KE⟩, by simp [intOf]; omega⟩
    · obtain rfl : i = N := by omega
      clear A1 A2 A3 HBt HC
      go_wp2_with (go_at_call 9; refine (HA.out.go _).mono ?_; rintro e w4 ⟨rfl, hb4⟩; have D4 := hidT (HK.out.d.trans (hb4.mono HK.out.d.size)); clear hb4)
      go_ret
      exact ⟨rfl, D4.out⟩
theorem sbk_any (s0 : Option Addr) (cap0 : Nat) (m : List (Nat × Nat)) (hm : ltE m) (W : World) (h0 : ERow W s0 m) :
    Calls Try.prog 7 #[.slice s0 m.length cap0] W fun e w' => e = .returned (.bool true) ∧ Below W.heap.size W w' := by
  by_cases h : (20 < m.length ∧ m.length ≤ 128) ∨ 200 < m.length
  · exact sbk_far s0 cap0 _ h W
  · by_cases hE : bkE m = 0
    · have hw := bkE_zero hm hE
      exact sbk_ok s0 cap0 m hw (by have := hw.le; omega) W h0 hE
    · exact sbk_err s0 cap0 m hm (by omega) hE W h0
end Go.Proofs.Ytkllihomdlibgaa
