/- Contracts of frob.Power and Root, and of the document's Power and Two, over the seat's translation. -/
import Derived.Test.YtakaconhoodigaaFrD
import Derived.Test.YtakaconhoodigaaRfE
namespace Go.Proofs.Ytakaconhoodigaa
open Go.RowKit
open Cb
open Tw (pm)

theorem rtwoF (n : Nat) (hn : n ≤ 16) : Ret 13 #[.int .i64 (n : Int)] (.int .i64 ((2 ^ n : Nat) : Int)) := by
  intro W
  go_enter Try.func13, Try.ntmps13
  go_wp2_with fail
  go_loopw [3, 4] (fun v u wr => ∃ j q : Nat, j ≤ n ∧ Hid (q = 2 ^ j) ∧ v = .int .i64 (q : Int) ∧ u = .int .i64 j ∧ W = wr) (fun _ u _ => n - (intOf u).toNat)
  case atStart => exact ⟨0, 1, Nat.zero_le _, (by rfl), rfl, rfl, rfl⟩
  case round =>
    obtain ⟨j, q, hj, HQ, rfl, rfl, rfl⟩ := hrel
    by_cases hlt : j < n
    · have hq : q ≤ 65536 := by rw [HQ.out]; exact Nat.pow_le_pow_right (by decide) (show j ≤ 16 by omega)
      have hw : IntKind.i64.wrap (2 * (q : Int)) = ((2 * q : Nat) : Int) := by rw [IntKind.wrap_i64]; omega
      go_wp2
      exact ⟨⟨j + 1, 2 * q, hlt, (by show _ = _; rw [HQ.out, Nat.pow_succ]; omega), by simp, by simp, by first | rfl | trivial⟩, by simp [intOf]; omega⟩
    · obtain rfl : j = n := by omega
      go_wp2
      go_ret
      exact ⟨by rw [← HQ.out]; rfl, Below.refl _ _⟩
set_option maxHeartbeats 4000000 in
set_option maxRecDepth 100000 in
theorem rpow33 (n : Nat) (hn : n ≤ 1000) (a : Nat × Nat) (la : lt2 a) :
    Ret 14 #[.agg #[.int .u64 (a.1 : Int), .int .u64 (a.2 : Int)], .int .i64 (n : Int)] (.agg #[.int .u64 ((sqv a n).1 : Int), .int .u64 ((sqv a n).2 : Int)]) := by
  intro W
  have SQ : Hid (∀ j, Ret 16 #[.agg #[.int .u64 ((sqv a j).1 : Int), .int .u64 ((sqv a j).2 : Int)], .agg #[.int .u64 ((sqv a j).1 : Int), .int .u64 ((sqv a j).2 : Int)]] (.agg #[.int .u64 ((sqv a (j + 1)).1 : Int), .int .u64 ((sqv a (j + 1)).2 : Int)])) := fun j => rproduct_any _ _ _ _ (lt_sqv la j).1 (lt_sqv la j).2 (lt_sqv la j).1 (lt_sqv la j).2
  have hq0 : sqv a 0 = a := rfl
  clear la
  generalize sqv a = q at *
  go_enter Try.func14, Try.ntmps14
  go_wp2_with fail
  obtain ⟨w0, hw0⟩ : ∃ w0, w0 = ((W.alloc (Obj.cells #[.int .u64 (a.1 : Int), .int .u64 (a.2 : Int)] 25)).alloc (Obj.cells #[.int .u64 0, .int .u64 0] 25)).alloc (Obj.cells #[.int .u64 (a.1 : Int), .int .u64 (a.2 : Int)] 25) := ⟨_, rfl⟩
  have E0 : Ew w0 (W.heap.size + 1 + 1) (q 0).1 (q 0).2 := by rw [hq0, hw0]; exact ⟨⟨by simp [go_sem], by simp [go_sem]⟩, by simp [go_sem], by simp [go_sem]⟩
  have E1 : Ew w0 (W.heap.size + 1) 0 0 := by rw [hw0]; exact ⟨⟨by simp [go_sem], by simp [go_sem]⟩, by simp [go_sem], by simp [go_sem]⟩
  have E2 : Below W.heap.size W w0 := by rw [hw0]; exact (((Below.refl _ _).alloc (Nat.le_refl _) _).alloc (by simp) _).alloc (by simp; omega) _
  rw [← hw0]
  clear hq0 hw0
  go_loopw [6] (fun u wr => ∃ j : Nat, j ≤ n ∧ u = .int .i64 j ∧ Ew wr (W.heap.size + 1 + 1) (q j).1 (q j).2 ∧ Ew wr (W.heap.size + 1) 0 0 ∧ Below W.heap.size W wr) (fun u _ => n - (intOf u).toNat)
  case atStart => exact ⟨0, Nat.zero_le _, rfl, E0, E1, E2⟩
  case round =>
    obtain ⟨j, hj, rfl, hs, hx, hbw⟩ := hrel
    have HS := hidF hs
    have HX := hidF hx
    have HB := hidF hbw
    have s1 := hs.hi
    have s0 := hs.lo
    clear hs hx hbw E0 E1 E2
    by_cases hjl : j < n
    · go_wp2_with (go_at_call 16; refine ((SQ.out j).go _).mono ?_; rintro e w2 ⟨rfl, hb2⟩; have HS2 := hidF (HS.out.below hb2); have HX2 := hidF (HX.out.below hb2); have HB2 := hidF (HB.out.trans (hb2.mono HB.out.size)); have g1 := HS2.out.hi; have g0 := HS2.out.lo; have t1 := HS2.out.fhi; have t0 := HS2.out.flo; clear hb2 HS HX HB s1 s0)
      go_roundw
      case rel => exact ⟨j + 1, hjl, by go_num, HS2.out.set _ _, HX2.out.offF (by omega) _ _ _ _, (HB2.out.setCell (by simp; omega) _).setCell (by simp; omega) _⟩
      case measure => simp [intOf]; omega
    · obtain rfl : j = n := by omega
      obtain ⟨⟨x1, x0⟩, f1, f0⟩ := HX.out
      have HB' := hidF HB.out
      clear HS HX HB
      go_wp2
      refine bodyPost_ret (v := .agg #[.int .u64 ((q j).1 : Int), .int .u64 ((q j).2 : Int)]) (by simp [results, Try.results14, go_sem, *]) rfl ⟨rfl, ?_⟩
      exact (HB'.out.setCell (by simp) _).setCell (by simp) _
theorem nlist8 {k : Nat} (hk : k < 8) : k = 0 ∨ k = 1 ∨ k = 2 ∨ k = 3 ∨ k = 4 ∨ k = 5 ∨ k = 6 ∨ k = 7 := by omega
set_option maxHeartbeats 4000000 in
set_option maxRecDepth 100000 in
theorem Power_no (l n : Int) (a : Nat × Nat) (la : lt2 a) (h : ofB l (a.1 : Int) (a.2 : Int) = false) : Ret 9 #[.int .i64 l, .agg #[.int .u64 (a.1 : Int), .int .u64 (a.2 : Int)], .int .i64 n] (.agg #[.int .u64 0, .int .u64 0]) := by
  intro W
  have HO := hidF (of_ret l a.1 a.2 la.2)
  rw [h] at HO
  go_enter Try.func9, Try.ntmps9
  go_wp2_with (go_at_call 15; refine (HO.out.go _).mono ?_; rintro e w1 ⟨rfl, hb1⟩; have ek : Ew w1 (W.heap.size + 1) 0 0 := Ew.below ⟨⟨by simp [go_sem], by simp [go_sem]⟩, by simp [go_sem], by simp [go_sem]⟩ hb1; have eb : Below W.heap.size W w1 := (((Below.refl _ _).alloc (Nat.le_refl _) _).alloc (by simp) _).trans (hb1.mono (by simp; omega)); have EK := hidF (And.intro ek eb); obtain ⟨⟨er1, er0⟩, eg1, eg0⟩ := ek; clear hb1 eb)
  refine bodyPost_ret (v := .agg #[.int .u64 0, .int .u64 0]) (by simp [results, Try.results9, go_sem, *]) rfl ⟨rfl, ?_⟩
  exact (EK.out.2.setCell (by simp) _).setCell (by simp) _
set_option maxHeartbeats 8000000 in
set_option maxRecDepth 100000 in
theorem Power_far (k : Nat) (hk : k < 8) (n : Int) (a : Nat × Nat) (la : lt2 a) (h : ofE k a) (hn : n < 0 ∨ ((2 ^ k : Nat) : Int) ≤ n) : Ret 9 #[.int .i64 (k : Int), .agg #[.int .u64 (a.1 : Int), .int .u64 (a.2 : Int)], .int .i64 n] (.agg #[.int .u64 0, .int .u64 0]) := by
  intro W
  have HO := hidF (of_ret (k : Int) a.1 a.2 la.2)
  rw [show ofB (k : Int) (a.1 : Int) (a.2 : Int) = true from h] at HO
  clear h la
  rcases nlist8 hk with rfl | rfl | rfl | rfl | rfl | rfl | rfl | rfl
  all_goals
    rcases hn with hn | hn
    all_goals (try simp only [Nat.reducePow] at hn)
    all_goals
      go_enter Try.func9, Try.ntmps9
      go_wp2_with (go_at_call 15; refine (HO.out.go _).mono ?_; rintro e w1 ⟨rfl, hb1⟩; have ek : Ew w1 (W.heap.size + 1) 0 0 := Ew.below ⟨⟨by simp [go_sem], by simp [go_sem]⟩, by simp [go_sem], by simp [go_sem]⟩ hb1; have eb : Below W.heap.size W w1 := (((Below.refl _ _).alloc (Nat.le_refl _) _).alloc (by simp) _).trans (hb1.mono (by simp; omega)); have EK := hidF (And.intro ek eb); obtain ⟨⟨er1, er0⟩, eg1, eg0⟩ := ek; clear hb1 eb)
      all_goals (try omega)
      all_goals
        refine bodyPost_ret (v := .agg #[.int .u64 0, .int .u64 0]) (by simp [results, Try.results9, go_sem, *]) rfl ⟨rfl, ?_⟩
        exact (EK.out.2.setCell (by simp) _).setCell (by simp) _
set_option maxHeartbeats 8000000 in
set_option maxRecDepth 100000 in
theorem Power_in (k : Nat) (hk : k < 8) (n : Nat) (a : Nat × Nat) (la : lt2 a) (h : ofE k a) (hn : n < 2 ^ k) : Ret 9 #[.int .i64 (k : Int), .agg #[.int .u64 (a.1 : Int), .int .u64 (a.2 : Int)], .int .i64 (n : Int)] (.agg #[.int .u64 ((sqv a n).1 : Int), .int .u64 ((sqv a n).2 : Int)]) := by
  intro W
  have HO := hidF (of_ret (k : Int) a.1 a.2 la.2)
  rw [show ofB (k : Int) (a.1 : Int) (a.2 : Int) = true from h] at HO
  have HP := hidF (power_ok k n hk (Nat.le_trans (Nat.le_of_lt (Nat.lt_of_lt_of_le hn (Nat.pow_le_pow_right (by decide) (show k ≤ 7 by omega)))) (by decide)) a la h)
  clear h la
  generalize sqv a n = v at *
  rcases nlist8 hk with rfl | rfl | rfl | rfl | rfl | rfl | rfl | rfl
  all_goals (try simp only [Nat.reducePow] at hn)
  all_goals
    have hn0 : ¬ (n : Int) < 0 := by omega
    go_enter Try.func9, Try.ntmps9
    go_wp2_with (first
      | (go_at_call 15; refine (HO.out.go _).mono ?_; rintro e w1 ⟨rfl, hb1⟩; have ek : Ew w1 (W.heap.size + 1) 0 0 := Ew.below ⟨⟨by simp [go_sem], by simp [go_sem]⟩, by simp [go_sem], by simp [go_sem]⟩ hb1; have ea : El w1 W.heap.size a.1 a.2 := El.below ⟨by simp [go_sem], by simp [go_sem]⟩ hb1; have eb : Below W.heap.size W w1 := (((Below.refl _ _).alloc (Nat.le_refl _) _).alloc (by simp) _).trans (hb1.mono (by simp; omega)); have EK := hidF (And.intro ek eb); obtain ⟨ea1, ea0⟩ := ea; clear hb1 eb ek)
      | (go_at_call 33; refine (HP.out.go _).mono ?_; rintro e w2 ⟨rfl, hb2⟩; have EK2 := hidF (And.intro (EK.out.1.below hb2) (EK.out.2.trans (hb2.mono EK.out.2.size))); obtain ⟨⟨er1, er0⟩, eg1, eg0⟩ := EK2.out.1; clear hb2 EK ea1 ea0))
    all_goals (try omega)
    all_goals
      refine bodyPost_ret (v := .agg #[.int .u64 (v.1 : Int), .int .u64 (v.2 : Int)]) (by simp [results, Try.results9, go_sem, *]) rfl ⟨rfl, ?_⟩
      exact (EK2.out.2.setCell (by simp) _).setCell (by simp) _
set_option maxHeartbeats 4000000 in
set_option maxRecDepth 100000 in
theorem Root_no (l : Int) (a : Nat × Nat) (la : lt2 a) (h : ofB l (a.1 : Int) (a.2 : Int) = false) : Ret 10 #[.int .i64 l, .agg #[.int .u64 (a.1 : Int), .int .u64 (a.2 : Int)]] (.agg #[.int .u64 0, .int .u64 0]) := by
  intro W
  have HO := hidF (of_ret l a.1 a.2 la.2)
  rw [h] at HO
  go_enter Try.func10, Try.ntmps10
  go_wp2_with (go_at_call 15; refine (HO.out.go _).mono ?_; rintro e w1 ⟨rfl, hb1⟩; have ek : Ew w1 (W.heap.size + 1) 0 0 := Ew.below ⟨⟨by simp [go_sem], by simp [go_sem]⟩, by simp [go_sem], by simp [go_sem]⟩ hb1; have eb : Below W.heap.size W w1 := (((Below.refl _ _).alloc (Nat.le_refl _) _).alloc (by simp) _).trans (hb1.mono (by simp; omega)); have EK := hidF (And.intro ek eb); obtain ⟨⟨er1, er0⟩, eg1, eg0⟩ := ek; clear hb1 eb)
  refine bodyPost_ret (v := .agg #[.int .u64 0, .int .u64 0]) (by simp [results, Try.results10, go_sem, *]) rfl ⟨rfl, ?_⟩
  exact (EK.out.2.setCell (by simp) _).setCell (by simp) _
set_option maxHeartbeats 8000000 in
set_option maxRecDepth 100000 in
theorem Root_in (k : Nat) (hk : k < 8) (a : Nat × Nat) (la : lt2 a) (h : ofE k a) : Ret 10 #[.int .i64 (k : Int), .agg #[.int .u64 (a.1 : Int), .int .u64 (a.2 : Int)]] (.agg #[.int .u64 ((sqv a (2 ^ k - 1)).1 : Int), .int .u64 ((sqv a (2 ^ k - 1)).2 : Int)]) := by
  intro W
  have HO := hidF (of_ret (k : Int) a.1 a.2 la.2)
  rw [show ofB (k : Int) (a.1 : Int) (a.2 : Int) = true from h] at HO
  have h128 : 2 ^ k ≤ 128 := Nat.pow_le_pow_right (by decide) (show k ≤ 7 by omega)
  have HP := hidF (power_ok k (2 ^ k - 1) hk (by omega) a la h)
  clear h la h128
  generalize sqv a (2 ^ k - 1) = v at *
  rcases nlist8 hk with rfl | rfl | rfl | rfl | rfl | rfl | rfl | rfl
  all_goals (simp only [Nat.reducePow, Nat.reduceSub] at HP)
  all_goals
    go_enter Try.func10, Try.ntmps10
    go_wp2_with (first
      | (go_at_call 15; refine (HO.out.go _).mono ?_; rintro e w1 ⟨rfl, hb1⟩; have ek : Ew w1 (W.heap.size + 1) 0 0 := Ew.below ⟨⟨by simp [go_sem], by simp [go_sem]⟩, by simp [go_sem], by simp [go_sem]⟩ hb1; have ea : El w1 W.heap.size a.1 a.2 := El.below ⟨by simp [go_sem], by simp [go_sem]⟩ hb1; have eb : Below W.heap.size W w1 := (((Below.refl _ _).alloc (Nat.le_refl _) _).alloc (by simp) _).trans (hb1.mono (by simp; omega)); have EK := hidF (And.intro ek eb); obtain ⟨ea1, ea0⟩ := ea; clear hb1 eb ek))
    go_region_with (go_at_call 33; refine (HP.out.go _).mono ?_; rintro e w2 ⟨rfl, hb2⟩; have EK2 := hidF (And.intro (EK.out.1.below (below_drewF hb2)) (EK.out.2.trans ((below_drewF hb2).mono EK.out.2.size))); obtain ⟨⟨er1, er0⟩, eg1, eg0⟩ := EK2.out.1; clear hb2 ea1 ea0)
    all_goals
      go_wp2
      refine bodyPost_ret (v := .agg #[.int .u64 (v.1 : Int), .int .u64 (v.2 : Int)]) (by simp [results, Try.results10, go_sem, *]) rfl ⟨rfl, ?_⟩
      exact (EK2.out.2.setCell (by simp) _).setCell (by simp) _
theorem root_sq (k : Nat) (hk : k < 8) (a : Nat × Nat) (la : lt2 a) (h : ofE k a) : pm (sqv a (2 ^ k - 1)) (sqv a (2 ^ k - 1)) = a := by
  rw [← sqv_succ, show 2 ^ k - 1 + 1 = 2 ^ k from Nat.succ_pred_eq_of_pos (Nat.two_pow_pos k), sqv_back hk la h]
end Go.Proofs.Ytakaconhoodigaa
