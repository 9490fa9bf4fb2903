/- Contracts of steepleref08's Two and Check and of code.New's errors over the seat's translation. -/
import Derived.Test.YtacnmaeaabekgaaDoorCdE
import Derived.Test.YtacnmaeaabekgaaDoorWvM
namespace Go.Proofs.YtacnmaeaabekgaaDoor
open Go.RowKit

set_option maxHeartbeats 400000 in
theorem two_any (n : Nat) (hn : n ≤ 10) : Ret 14 #[.int .i64 (n : Int)] (.int .i64 ((2 ^ n : Nat) : Int)) := by
  intro W
  go_enter Tryd.func14, Tryd.ntmps14
  go_wp2_with fail
  go_loopw [3, 4] (fun v u wr => ∃ j q : Nat, j ≤ n ∧ Hid (q = 2 ^ j) ∧ v = .int .i64 (q : Int) ∧ u = .int .i64 j ∧ W = wr) (fun _ u _ => n - (intOf u).toNat)
  case atStart => exact ⟨0, 1, Nat.zero_le _, (by rfl), rfl, rfl, rfl⟩
  case round =>
    obtain ⟨j, q, hj, HQ, rfl, rfl, rfl⟩ := hrel
    by_cases hlt : j < n
    · have hq : q ≤ 1024 := by rw [HQ.out]; exact Nat.pow_le_pow_right (by decide) (show j ≤ 10 by omega)
      have hw : IntKind.i64.wrap (2 * (q : Int)) = ((2 * q : Nat) : Int) := by rw [IntKind.wrap_i64]; omega
      go_wp2
      exact ⟨⟨j + 1, 2 * q, hlt, (by show _ = _; rw [HQ.out, Nat.pow_succ]; omega), by simp, by simp, by first | rfl | trivial⟩, by simp [intOf]; omega⟩
    · obtain rfl : j = n := by omega
      go_wp2
      go_ret
      exact ⟨by rw [← HQ.out]; rfl, Below.refl _ _⟩
set_option maxHeartbeats 400000 in
theorem chk_a (l k r : Int) (h : l < 0) : Ret 9 #[.int .i64 l, .int .i64 k, .int .i64 r] (.int .i64 1) := by
  intro W
  go_enter Tryd.func9, Tryd.ntmps9
  go_wp2
  go_ret
  exact ⟨rfl, by first | exact Below.refl _ _ | go_grown⟩
set_option maxHeartbeats 400000 in
theorem chk_b (l k r : Int) (h : 0 ≤ l) (h2 : 7 < l) : Ret 9 #[.int .i64 l, .int .i64 k, .int .i64 r] (.int .i64 1) := by
  intro W
  go_enter Tryd.func9, Tryd.ntmps9
  go_wp2
  go_ret
  exact ⟨rfl, by first | exact Below.refl _ _ | go_grown⟩
set_option maxHeartbeats 400000 in
theorem chk_c (l k r : Int) (h : 0 ≤ l) (h2 : l ≤ 7) (h3 : k < 0) : Ret 9 #[.int .i64 l, .int .i64 k, .int .i64 r] (.int .i64 1) := by
  intro W
  go_enter Tryd.func9, Tryd.ntmps9
  go_wp2
  go_ret
  exact ⟨rfl, by first | exact Below.refl _ _ | go_grown⟩
set_option maxHeartbeats 400000 in
theorem chk_d (l k r : Int) (h : 0 ≤ l) (h2 : l ≤ 7) (h3 : 0 ≤ k) (h4 : r < 0) : Ret 9 #[.int .i64 l, .int .i64 k, .int .i64 r] (.int .i64 1) := by
  intro W
  go_enter Tryd.func9, Tryd.ntmps9
  go_wp2
  go_ret
  exact ⟨rfl, by first | exact Below.refl _ _ | go_grown⟩
theorem chk_arg (l k r : Int) (h : ¬ (0 ≤ l ∧ l ≤ 7 ∧ 0 ≤ k ∧ 0 ≤ r)) : Ret 9 #[.int .i64 l, .int .i64 k, .int .i64 r] (.int .i64 1) := by
  by_cases h1 : 0 ≤ l
  · by_cases h2 : l ≤ 7
    · by_cases h3 : 0 ≤ k
      · exact chk_d l k r h1 h2 h3 (by omega)
      · exact chk_c l k r h1 h2 (by omega)
    · exact chk_b l k r h1 (by omega)
  · exact chk_a l k r (by omega)
set_option maxHeartbeats 400000 in
theorem nw_a (l k r : Int) (h : l < 0) : Ret 8 #[.int .i64 l, .int .i64 k, .int .i64 r] (.tuple #[.pointer none, .int .i64 1]) := by
  intro W
  go_enter Tryd.func8, Tryd.ntmps8
  go_wp2
  refine bodyPost_ret (v := .tuple #[.pointer none, .int .i64 1]) (by simp [results, Tryd.results8, go_sem]) rfl ⟨rfl, ?_⟩
  first | exact Below.refl _ _ | go_grown
set_option maxHeartbeats 400000 in
theorem nw_b (l k r : Int) (h : 0 ≤ l) (h2 : 7 < l) : Ret 8 #[.int .i64 l, .int .i64 k, .int .i64 r] (.tuple #[.pointer none, .int .i64 1]) := by
  intro W
  go_enter Tryd.func8, Tryd.ntmps8
  go_wp2
  refine bodyPost_ret (v := .tuple #[.pointer none, .int .i64 1]) (by simp [results, Tryd.results8, go_sem]) rfl ⟨rfl, ?_⟩
  first | exact Below.refl _ _ | go_grown
set_option maxHeartbeats 400000 in
theorem nw_c (l k r : Int) (h : 0 ≤ l) (h2 : l ≤ 7) (h3 : k < 0) : Ret 8 #[.int .i64 l, .int .i64 k, .int .i64 r] (.tuple #[.pointer none, .int .i64 1]) := by
  intro W
  go_enter Tryd.func8, Tryd.ntmps8
  go_wp2
  refine bodyPost_ret (v := .tuple #[.pointer none, .int .i64 1]) (by simp [results, Tryd.results8, go_sem]) rfl ⟨rfl, ?_⟩
  first | exact Below.refl _ _ | go_grown
set_option maxHeartbeats 400000 in
theorem nw_d (l k r : Int) (h : 0 ≤ l) (h2 : l ≤ 7) (h3 : 0 ≤ k) (h4 : r < 0) : Ret 8 #[.int .i64 l, .int .i64 k, .int .i64 r] (.tuple #[.pointer none, .int .i64 1]) := by
  intro W
  go_enter Tryd.func8, Tryd.ntmps8
  go_wp2
  refine bodyPost_ret (v := .tuple #[.pointer none, .int .i64 1]) (by simp [results, Tryd.results8, go_sem]) rfl ⟨rfl, ?_⟩
  first | exact Below.refl _ _ | go_grown
theorem nw_arg (l k r : Int) (h : ¬ (0 ≤ l ∧ l ≤ 7 ∧ 0 ≤ k ∧ 0 ≤ r)) : Ret 8 #[.int .i64 l, .int .i64 k, .int .i64 r] (.tuple #[.pointer none, .int .i64 1]) := by
  by_cases h1 : 0 ≤ l
  · by_cases h2 : l ≤ 7
    · by_cases h3 : 0 ≤ k
      · exact nw_d l k r h1 h2 h3 (by omega)
      · exact nw_c l k r h1 h2 (by omega)
    · exact nw_b l k r h1 (by omega)
  · exact nw_a l k r (by omega)
set_option maxHeartbeats 400000 in
theorem chk0_a (k r : Int) (h0 : 0 ≤ k) (h1 : 0 ≤ r) (h : 10 < k) : Ret 9 #[.int .i64 0, .int .i64 k, .int .i64 r] (.int .i64 2) := by
  intro W
  go_enter Tryd.func9, Tryd.ntmps9
  go_wp2
  go_ret
  exact ⟨rfl, by first | exact Below.refl _ _ | go_grown⟩
set_option maxHeartbeats 400000 in
theorem chk0_b (k r : Int) (h0 : 0 ≤ k) (_h1 : 0 ≤ r) (h : k ≤ 10) (h2 : 10 < r) : Ret 9 #[.int .i64 0, .int .i64 k, .int .i64 r] (.int .i64 2) := by
  intro W
  go_enter Tryd.func9, Tryd.ntmps9
  go_wp2
  go_ret
  exact ⟨rfl, by first | exact Below.refl _ _ | go_grown⟩
set_option maxHeartbeats 400000 in
theorem chk0_c (k r : Int) (h0 : 0 ≤ k) (h1 : 0 ≤ r) (h : k ≤ 10) (h2 : r ≤ 10) (h3 : 10 < k + r) : Ret 9 #[.int .i64 0, .int .i64 k, .int .i64 r] (.int .i64 2) := by
  intro W
  have hs : IntKind.i64.wrap (k + r) = k + r := by rw [IntKind.wrap_i64]; omega
  go_enter Tryd.func9, Tryd.ntmps9
  go_wp2
  go_ret
  exact ⟨rfl, by first | exact Below.refl _ _ | go_grown⟩
set_option maxHeartbeats 400000 in
theorem chk0_d (k r : Int) (h0 : 0 ≤ k) (h1 : 0 ≤ r) (h : k ≤ 10) (h2 : r ≤ 10) (h3 : k + r ≤ 10) (h4 : 1 < k + r) : Ret 9 #[.int .i64 0, .int .i64 k, .int .i64 r] (.int .i64 2) := by
  intro W
  have hs : IntKind.i64.wrap (k + r) = k + r := by rw [IntKind.wrap_i64]; omega
  go_enter Tryd.func9, Tryd.ntmps9
  go_wp2
  go_ret
  exact ⟨rfl, by first | exact Below.refl _ _ | go_grown⟩
set_option maxHeartbeats 400000 in
theorem chk0_e (k r : Int) (h0 : 0 ≤ k) (h1 : 0 ≤ r) (h : k ≤ 10) (h2 : r ≤ 10) (h3 : k + r ≤ 10) (h4 : k + r ≤ 1) : Ret 9 #[.int .i64 0, .int .i64 k, .int .i64 r] (.int .i64 0) := by
  intro W
  have hs : IntKind.i64.wrap (k + r) = k + r := by rw [IntKind.wrap_i64]; omega
  go_enter Tryd.func9, Tryd.ntmps9
  go_wp2
  go_ret
  exact ⟨rfl, by first | exact Below.refl _ _ | go_grown⟩
theorem chk0_long (k r : Int) (h0 : 0 ≤ k) (h1 : 0 ≤ r) (h : ¬ (k + r ≤ 10 ∧ k + r ≤ 1)) : Ret 9 #[.int .i64 0, .int .i64 k, .int .i64 r] (.int .i64 2) := by
  by_cases a : k ≤ 10
  · by_cases b : r ≤ 10
    · by_cases c : k + r ≤ 10
      · exact chk0_d k r h0 h1 a b c (by omega)
      · exact chk0_c k r h0 h1 a b (by omega)
    · exact chk0_b k r h0 h1 a (by omega)
  · exact chk0_a k r h0 h1 (by omega)
set_option maxHeartbeats 400000 in
theorem chk1_a (k r : Int) (h0 : 0 ≤ k) (h1 : 0 ≤ r) (h : 10 < k) : Ret 9 #[.int .i64 1, .int .i64 k, .int .i64 r] (.int .i64 2) := by
  intro W
  go_enter Tryd.func9, Tryd.ntmps9
  go_wp2
  go_ret
  exact ⟨rfl, by first | exact Below.refl _ _ | go_grown⟩
set_option maxHeartbeats 400000 in
theorem chk1_b (k r : Int) (h0 : 0 ≤ k) (_h1 : 0 ≤ r) (h : k ≤ 10) (h2 : 10 < r) : Ret 9 #[.int .i64 1, .int .i64 k, .int .i64 r] (.int .i64 2) := by
  intro W
  go_enter Tryd.func9, Tryd.ntmps9
  go_wp2
  go_ret
  exact ⟨rfl, by first | exact Below.refl _ _ | go_grown⟩
set_option maxHeartbeats 400000 in
theorem chk1_c (k r : Int) (h0 : 0 ≤ k) (h1 : 0 ≤ r) (h : k ≤ 10) (h2 : r ≤ 10) (h3 : 10 < k + r) : Ret 9 #[.int .i64 1, .int .i64 k, .int .i64 r] (.int .i64 2) := by
  intro W
  have hs : IntKind.i64.wrap (k + r) = k + r := by rw [IntKind.wrap_i64]; omega
  go_enter Tryd.func9, Tryd.ntmps9
  go_wp2
  go_ret
  exact ⟨rfl, by first | exact Below.refl _ _ | go_grown⟩
set_option maxHeartbeats 400000 in
theorem chk1_d (k r : Int) (h0 : 0 ≤ k) (h1 : 0 ≤ r) (h : k ≤ 10) (h2 : r ≤ 10) (h3 : k + r ≤ 10) (h4 : 2 < k + r) : Ret 9 #[.int .i64 1, .int .i64 k, .int .i64 r] (.int .i64 2) := by
  intro W
  have hs : IntKind.i64.wrap (k + r) = k + r := by rw [IntKind.wrap_i64]; omega
  go_enter Tryd.func9, Tryd.ntmps9
  go_wp2
  go_ret
  exact ⟨rfl, by first | exact Below.refl _ _ | go_grown⟩
set_option maxHeartbeats 400000 in
theorem chk1_e (k r : Int) (h0 : 0 ≤ k) (h1 : 0 ≤ r) (h : k ≤ 10) (h2 : r ≤ 10) (h3 : k + r ≤ 10) (h4 : k + r ≤ 2) : Ret 9 #[.int .i64 1, .int .i64 k, .int .i64 r] (.int .i64 0) := by
  intro W
  have hs : IntKind.i64.wrap (k + r) = k + r := by rw [IntKind.wrap_i64]; omega
  go_enter Tryd.func9, Tryd.ntmps9
  go_wp2
  go_ret
  exact ⟨rfl, by first | exact Below.refl _ _ | go_grown⟩
theorem chk1_long (k r : Int) (h0 : 0 ≤ k) (h1 : 0 ≤ r) (h : ¬ (k + r ≤ 10 ∧ k + r ≤ 2)) : Ret 9 #[.int .i64 1, .int .i64 k, .int .i64 r] (.int .i64 2) := by
  by_cases a : k ≤ 10
  · by_cases b : r ≤ 10
    · by_cases c : k + r ≤ 10
      · exact chk1_d k r h0 h1 a b c (by omega)
      · exact chk1_c k r h0 h1 a b (by omega)
    · exact chk1_b k r h0 h1 a (by omega)
  · exact chk1_a k r h0 h1 (by omega)
set_option maxHeartbeats 400000 in
theorem chk2_a (k r : Int) (h0 : 0 ≤ k) (h1 : 0 ≤ r) (h : 10 < k) : Ret 9 #[.int .i64 2, .int .i64 k, .int .i64 r] (.int .i64 2) := by
  intro W
  go_enter Tryd.func9, Tryd.ntmps9
  go_wp2
  go_ret
  exact ⟨rfl, by first | exact Below.refl _ _ | go_grown⟩
set_option maxHeartbeats 400000 in
theorem chk2_b (k r : Int) (h0 : 0 ≤ k) (_h1 : 0 ≤ r) (h : k ≤ 10) (h2 : 10 < r) : Ret 9 #[.int .i64 2, .int .i64 k, .int .i64 r] (.int .i64 2) := by
  intro W
  go_enter Tryd.func9, Tryd.ntmps9
  go_wp2
  go_ret
  exact ⟨rfl, by first | exact Below.refl _ _ | go_grown⟩
set_option maxHeartbeats 400000 in
theorem chk2_c (k r : Int) (h0 : 0 ≤ k) (h1 : 0 ≤ r) (h : k ≤ 10) (h2 : r ≤ 10) (h3 : 10 < k + r) : Ret 9 #[.int .i64 2, .int .i64 k, .int .i64 r] (.int .i64 2) := by
  intro W
  have hs : IntKind.i64.wrap (k + r) = k + r := by rw [IntKind.wrap_i64]; omega
  go_enter Tryd.func9, Tryd.ntmps9
  go_wp2
  go_ret
  exact ⟨rfl, by first | exact Below.refl _ _ | go_grown⟩
set_option maxHeartbeats 400000 in
theorem chk2_d (k r : Int) (h0 : 0 ≤ k) (h1 : 0 ≤ r) (h : k ≤ 10) (h2 : r ≤ 10) (h3 : k + r ≤ 10) (h4 : 4 < k + r) : Ret 9 #[.int .i64 2, .int .i64 k, .int .i64 r] (.int .i64 2) := by
  intro W
  have hs : IntKind.i64.wrap (k + r) = k + r := by rw [IntKind.wrap_i64]; omega
  go_enter Tryd.func9, Tryd.ntmps9
  go_wp2
  go_ret
  exact ⟨rfl, by first | exact Below.refl _ _ | go_grown⟩
set_option maxHeartbeats 400000 in
theorem chk2_e (k r : Int) (h0 : 0 ≤ k) (h1 : 0 ≤ r) (h : k ≤ 10) (h2 : r ≤ 10) (h3 : k + r ≤ 10) (h4 : k + r ≤ 4) : Ret 9 #[.int .i64 2, .int .i64 k, .int .i64 r] (.int .i64 0) := by
  intro W
  have hs : IntKind.i64.wrap (k + r) = k + r := by rw [IntKind.wrap_i64]; omega
  go_enter Tryd.func9, Tryd.ntmps9
  go_wp2
  go_ret
  exact ⟨rfl, by first | exact Below.refl _ _ | go_grown⟩
theorem chk2_long (k r : Int) (h0 : 0 ≤ k) (h1 : 0 ≤ r) (h : ¬ (k + r ≤ 10 ∧ k + r ≤ 4)) : Ret 9 #[.int .i64 2, .int .i64 k, .int .i64 r] (.int .i64 2) := by
  by_cases a : k ≤ 10
  · by_cases b : r ≤ 10
    · by_cases c : k + r ≤ 10
      · exact chk2_d k r h0 h1 a b c (by omega)
      · exact chk2_c k r h0 h1 a b (by omega)
    · exact chk2_b k r h0 h1 a (by omega)
  · exact chk2_a k r h0 h1 (by omega)
set_option maxHeartbeats 400000 in
theorem chk3_a (k r : Int) (h0 : 0 ≤ k) (h1 : 0 ≤ r) (h : 10 < k) : Ret 9 #[.int .i64 3, .int .i64 k, .int .i64 r] (.int .i64 2) := by
  intro W
  go_enter Tryd.func9, Tryd.ntmps9
  go_wp2
  go_ret
  exact ⟨rfl, by first | exact Below.refl _ _ | go_grown⟩
set_option maxHeartbeats 400000 in
theorem chk3_b (k r : Int) (h0 : 0 ≤ k) (_h1 : 0 ≤ r) (h : k ≤ 10) (h2 : 10 < r) : Ret 9 #[.int .i64 3, .int .i64 k, .int .i64 r] (.int .i64 2) := by
  intro W
  go_enter Tryd.func9, Tryd.ntmps9
  go_wp2
  go_ret
  exact ⟨rfl, by first | exact Below.refl _ _ | go_grown⟩
set_option maxHeartbeats 400000 in
theorem chk3_c (k r : Int) (h0 : 0 ≤ k) (h1 : 0 ≤ r) (h : k ≤ 10) (h2 : r ≤ 10) (h3 : 10 < k + r) : Ret 9 #[.int .i64 3, .int .i64 k, .int .i64 r] (.int .i64 2) := by
  intro W
  have hs : IntKind.i64.wrap (k + r) = k + r := by rw [IntKind.wrap_i64]; omega
  go_enter Tryd.func9, Tryd.ntmps9
  go_wp2
  go_ret
  exact ⟨rfl, by first | exact Below.refl _ _ | go_grown⟩
set_option maxHeartbeats 400000 in
theorem chk3_d (k r : Int) (h0 : 0 ≤ k) (h1 : 0 ≤ r) (h : k ≤ 10) (h2 : r ≤ 10) (h3 : k + r ≤ 10) (h4 : 8 < k + r) : Ret 9 #[.int .i64 3, .int .i64 k, .int .i64 r] (.int .i64 2) := by
  intro W
  have hs : IntKind.i64.wrap (k + r) = k + r := by rw [IntKind.wrap_i64]; omega
  go_enter Tryd.func9, Tryd.ntmps9
  go_wp2
  go_ret
  exact ⟨rfl, by first | exact Below.refl _ _ | go_grown⟩
set_option maxHeartbeats 400000 in
theorem chk3_e (k r : Int) (h0 : 0 ≤ k) (h1 : 0 ≤ r) (h : k ≤ 10) (h2 : r ≤ 10) (h3 : k + r ≤ 10) (h4 : k + r ≤ 8) : Ret 9 #[.int .i64 3, .int .i64 k, .int .i64 r] (.int .i64 0) := by
  intro W
  have hs : IntKind.i64.wrap (k + r) = k + r := by rw [IntKind.wrap_i64]; omega
  go_enter Tryd.func9, Tryd.ntmps9
  go_wp2
  go_ret
  exact ⟨rfl, by first | exact Below.refl _ _ | go_grown⟩
theorem chk3_long (k r : Int) (h0 : 0 ≤ k) (h1 : 0 ≤ r) (h : ¬ (k + r ≤ 10 ∧ k + r ≤ 8)) : Ret 9 #[.int .i64 3, .int .i64 k, .int .i64 r] (.int .i64 2) := by
  by_cases a : k ≤ 10
  · by_cases b : r ≤ 10
    · by_cases c : k + r ≤ 10
      · exact chk3_d k r h0 h1 a b c (by omega)
      · exact chk3_c k r h0 h1 a b (by omega)
    · exact chk3_b k r h0 h1 a (by omega)
  · exact chk3_a k r h0 h1 (by omega)
set_option maxHeartbeats 400000 in
theorem chk4_a (k r : Int) (h0 : 0 ≤ k) (h1 : 0 ≤ r) (h : 10 < k) : Ret 9 #[.int .i64 4, .int .i64 k, .int .i64 r] (.int .i64 2) := by
  intro W
  go_enter Tryd.func9, Tryd.ntmps9
  go_wp2
  go_ret
  exact ⟨rfl, by first | exact Below.refl _ _ | go_grown⟩
set_option maxHeartbeats 400000 in
theorem chk4_b (k r : Int) (h0 : 0 ≤ k) (_h1 : 0 ≤ r) (h : k ≤ 10) (h2 : 10 < r) : Ret 9 #[.int .i64 4, .int .i64 k, .int .i64 r] (.int .i64 2) := by
  intro W
  go_enter Tryd.func9, Tryd.ntmps9
  go_wp2
  go_ret
  exact ⟨rfl, by first | exact Below.refl _ _ | go_grown⟩
set_option maxHeartbeats 400000 in
theorem chk4_c (k r : Int) (h0 : 0 ≤ k) (h1 : 0 ≤ r) (h : k ≤ 10) (h2 : r ≤ 10) (h3 : 10 < k + r) : Ret 9 #[.int .i64 4, .int .i64 k, .int .i64 r] (.int .i64 2) := by
  intro W
  have hs : IntKind.i64.wrap (k + r) = k + r := by rw [IntKind.wrap_i64]; omega
  go_enter Tryd.func9, Tryd.ntmps9
  go_wp2
  go_ret
  exact ⟨rfl, by first | exact Below.refl _ _ | go_grown⟩
set_option maxHeartbeats 400000 in
theorem chk4_e (k r : Int) (h0 : 0 ≤ k) (h1 : 0 ≤ r) (h : k ≤ 10) (h2 : r ≤ 10) (h3 : k + r ≤ 10) (_h4 : k + r ≤ 16) : Ret 9 #[.int .i64 4, .int .i64 k, .int .i64 r] (.int .i64 0) := by
  intro W
  have hs : IntKind.i64.wrap (k + r) = k + r := by rw [IntKind.wrap_i64]; omega
  go_enter Tryd.func9, Tryd.ntmps9
  go_wp2
  go_ret
  exact ⟨rfl, by first | exact Below.refl _ _ | go_grown⟩
theorem chk4_long (k r : Int) (h0 : 0 ≤ k) (h1 : 0 ≤ r) (h : ¬ (k + r ≤ 10 ∧ k + r ≤ 16)) : Ret 9 #[.int .i64 4, .int .i64 k, .int .i64 r] (.int .i64 2) := by
  by_cases a : k ≤ 10
  · by_cases b : r ≤ 10
    · by_cases c : k + r ≤ 10
      · omega
      · exact chk4_c k r h0 h1 a b (by omega)
    · exact chk4_b k r h0 h1 a (by omega)
  · exact chk4_a k r h0 h1 (by omega)
set_option maxHeartbeats 400000 in
theorem chk5_a (k r : Int) (h0 : 0 ≤ k) (h1 : 0 ≤ r) (h : 10 < k) : Ret 9 #[.int .i64 5, .int .i64 k, .int .i64 r] (.int .i64 2) := by
  intro W
  go_enter Tryd.func9, Tryd.ntmps9
  go_wp2
  go_ret
  exact ⟨rfl, by first | exact Below.refl _ _ | go_grown⟩
set_option maxHeartbeats 400000 in
theorem chk5_b (k r : Int) (h0 : 0 ≤ k) (_h1 : 0 ≤ r) (h : k ≤ 10) (h2 : 10 < r) : Ret 9 #[.int .i64 5, .int .i64 k, .int .i64 r] (.int .i64 2) := by
  intro W
  go_enter Tryd.func9, Tryd.ntmps9
  go_wp2
  go_ret
  exact ⟨rfl, by first | exact Below.refl _ _ | go_grown⟩
set_option maxHeartbeats 400000 in
theorem chk5_c (k r : Int) (h0 : 0 ≤ k) (h1 : 0 ≤ r) (h : k ≤ 10) (h2 : r ≤ 10) (h3 : 10 < k + r) : Ret 9 #[.int .i64 5, .int .i64 k, .int .i64 r] (.int .i64 2) := by
  intro W
  have hs : IntKind.i64.wrap (k + r) = k + r := by rw [IntKind.wrap_i64]; omega
  go_enter Tryd.func9, Tryd.ntmps9
  go_wp2
  go_ret
  exact ⟨rfl, by first | exact Below.refl _ _ | go_grown⟩
set_option maxHeartbeats 400000 in
theorem chk5_e (k r : Int) (h0 : 0 ≤ k) (h1 : 0 ≤ r) (h : k ≤ 10) (h2 : r ≤ 10) (h3 : k + r ≤ 10) (_h4 : k + r ≤ 32) : Ret 9 #[.int .i64 5, .int .i64 k, .int .i64 r] (.int .i64 0) := by
  intro W
  have hs : IntKind.i64.wrap (k + r) = k + r := by rw [IntKind.wrap_i64]; omega
  go_enter Tryd.func9, Tryd.ntmps9
  go_wp2
  go_ret
  exact ⟨rfl, by first | exact Below.refl _ _ | go_grown⟩
theorem chk5_long (k r : Int) (h0 : 0 ≤ k) (h1 : 0 ≤ r) (h : ¬ (k + r ≤ 10 ∧ k + r ≤ 32)) : Ret 9 #[.int .i64 5, .int .i64 k, .int .i64 r] (.int .i64 2) := by
  by_cases a : k ≤ 10
  · by_cases b : r ≤ 10
    · by_cases c : k + r ≤ 10
      · omega
      · exact chk5_c k r h0 h1 a b (by omega)
    · exact chk5_b k r h0 h1 a (by omega)
  · exact chk5_a k r h0 h1 (by omega)
set_option maxHeartbeats 400000 in
theorem chk6_a (k r : Int) (h0 : 0 ≤ k) (h1 : 0 ≤ r) (h : 10 < k) : Ret 9 #[.int .i64 6, .int .i64 k, .int .i64 r] (.int .i64 2) := by
  intro W
  go_enter Tryd.func9, Tryd.ntmps9
  go_wp2
  go_ret
  exact ⟨rfl, by first | exact Below.refl _ _ | go_grown⟩
set_option maxHeartbeats 400000 in
theorem chk6_b (k r : Int) (h0 : 0 ≤ k) (_h1 : 0 ≤ r) (h : k ≤ 10) (h2 : 10 < r) : Ret 9 #[.int .i64 6, .int .i64 k, .int .i64 r] (.int .i64 2) := by
  intro W
  go_enter Tryd.func9, Tryd.ntmps9
  go_wp2
  go_ret
  exact ⟨rfl, by first | exact Below.refl _ _ | go_grown⟩
set_option maxHeartbeats 400000 in
theorem chk6_c (k r : Int) (h0 : 0 ≤ k) (h1 : 0 ≤ r) (h : k ≤ 10) (h2 : r ≤ 10) (h3 : 10 < k + r) : Ret 9 #[.int .i64 6, .int .i64 k, .int .i64 r] (.int .i64 2) := by
  intro W
  have hs : IntKind.i64.wrap (k + r) = k + r := by rw [IntKind.wrap_i64]; omega
  go_enter Tryd.func9, Tryd.ntmps9
  go_wp2
  go_ret
  exact ⟨rfl, by first | exact Below.refl _ _ | go_grown⟩
set_option maxHeartbeats 400000 in
theorem chk6_e (k r : Int) (h0 : 0 ≤ k) (h1 : 0 ≤ r) (h : k ≤ 10) (h2 : r ≤ 10) (h3 : k + r ≤ 10) (_h4 : k + r ≤ 64) : Ret 9 #[.int .i64 6, .int .i64 k, .int .i64 r] (.int .i64 0) := by
  intro W
  have hs : IntKind.i64.wrap (k + r) = k + r := by rw [IntKind.wrap_i64]; omega
  go_enter Tryd.func9, Tryd.ntmps9
  go_wp2
  go_ret
  exact ⟨rfl, by first | exact Below.refl _ _ | go_grown⟩
theorem chk6_long (k r : Int) (h0 : 0 ≤ k) (h1 : 0 ≤ r) (h : ¬ (k + r ≤ 10 ∧ k + r ≤ 64)) : Ret 9 #[.int .i64 6, .int .i64 k, .int .i64 r] (.int .i64 2) := by
  by_cases a : k ≤ 10
  · by_cases b : r ≤ 10
    · by_cases c : k + r ≤ 10
      · omega
      · exact chk6_c k r h0 h1 a b (by omega)
    · exact chk6_b k r h0 h1 a (by omega)
  · exact chk6_a k r h0 h1 (by omega)
set_option maxHeartbeats 400000 in
theorem chk7_a (k r : Int) (h0 : 0 ≤ k) (h1 : 0 ≤ r) (h : 10 < k) : Ret 9 #[.int .i64 7, .int .i64 k, .int .i64 r] (.int .i64 2) := by
  intro W
  go_enter Tryd.func9, Tryd.ntmps9
  go_wp2
  go_ret
  exact ⟨rfl, by first | exact Below.refl _ _ | go_grown⟩
set_option maxHeartbeats 400000 in
theorem chk7_b (k r : Int) (h0 : 0 ≤ k) (_h1 : 0 ≤ r) (h : k ≤ 10) (h2 : 10 < r) : Ret 9 #[.int .i64 7, .int .i64 k, .int .i64 r] (.int .i64 2) := by
  intro W
  go_enter Tryd.func9, Tryd.ntmps9
  go_wp2
  go_ret
  exact ⟨rfl, by first | exact Below.refl _ _ | go_grown⟩
set_option maxHeartbeats 400000 in
theorem chk7_c (k r : Int) (h0 : 0 ≤ k) (h1 : 0 ≤ r) (h : k ≤ 10) (h2 : r ≤ 10) (h3 : 10 < k + r) : Ret 9 #[.int .i64 7, .int .i64 k, .int .i64 r] (.int .i64 2) := by
  intro W
  have hs : IntKind.i64.wrap (k + r) = k + r := by rw [IntKind.wrap_i64]; omega
  go_enter Tryd.func9, Tryd.ntmps9
  go_wp2
  go_ret
  exact ⟨rfl, by first | exact Below.refl _ _ | go_grown⟩
set_option maxHeartbeats 400000 in
theorem chk7_e (k r : Int) (h0 : 0 ≤ k) (h1 : 0 ≤ r) (h : k ≤ 10) (h2 : r ≤ 10) (h3 : k + r ≤ 10) (_h4 : k + r ≤ 128) : Ret 9 #[.int .i64 7, .int .i64 k, .int .i64 r] (.int .i64 0) := by
  intro W
  have hs : IntKind.i64.wrap (k + r) = k + r := by rw [IntKind.wrap_i64]; omega
  go_enter Tryd.func9, Tryd.ntmps9
  go_wp2
  go_ret
  exact ⟨rfl, by first | exact Below.refl _ _ | go_grown⟩
theorem chk7_long (k r : Int) (h0 : 0 ≤ k) (h1 : 0 ≤ r) (h : ¬ (k + r ≤ 10 ∧ k + r ≤ 128)) : Ret 9 #[.int .i64 7, .int .i64 k, .int .i64 r] (.int .i64 2) := by
  by_cases a : k ≤ 10
  · by_cases b : r ≤ 10
    · by_cases c : k + r ≤ 10
      · omega
      · exact chk7_c k r h0 h1 a b (by omega)
    · exact chk7_b k r h0 h1 a (by omega)
  · exact chk7_a k r h0 h1 (by omega)
theorem chk_long (l : Nat) (hl : l < 8) (k r : Int) (h0 : 0 ≤ k) (h1 : 0 ≤ r) (h : ¬ (k + r ≤ 10 ∧ k + r ≤ ((2 ^ l : Nat) : Int))) : Ret 9 #[.int .i64 (l : Int), .int .i64 k, .int .i64 r] (.int .i64 2) := by
  obtain rfl | rfl | rfl | rfl | rfl | rfl | rfl | rfl : l = 0 ∨ l = 1 ∨ l = 2 ∨ l = 3 ∨ l = 4 ∨ l = 5 ∨ l = 6 ∨ l = 7 := by omega
  · exact chk0_long k r h0 h1 h
  · exact chk1_long k r h0 h1 h
  · exact chk2_long k r h0 h1 h
  · exact chk3_long k r h0 h1 h
  · exact chk4_long k r h0 h1 h
  · exact chk5_long k r h0 h1 h
  · exact chk6_long k r h0 h1 h
  · exact chk7_long k r h0 h1 h
theorem chk_ok (l : Nat) (hl : l < 8) (k r : Int) (h0 : 0 ≤ k) (h1 : 0 ≤ r) (h : k + r ≤ 10 ∧ k + r ≤ ((2 ^ l : Nat) : Int)) : Ret 9 #[.int .i64 (l : Int), .int .i64 k, .int .i64 r] (.int .i64 0) := by
  have a : k ≤ 10 := by omega
  have b : r ≤ 10 := by omega
  obtain rfl | rfl | rfl | rfl | rfl | rfl | rfl | rfl : l = 0 ∨ l = 1 ∨ l = 2 ∨ l = 3 ∨ l = 4 ∨ l = 5 ∨ l = 6 ∨ l = 7 := by omega
  · exact chk0_e k r h0 h1 a b h.1 h.2
  · exact chk1_e k r h0 h1 a b h.1 h.2
  · exact chk2_e k r h0 h1 a b h.1 h.2
  · exact chk3_e k r h0 h1 a b h.1 h.2
  · exact chk4_e k r h0 h1 a b h.1 h.2
  · exact chk5_e k r h0 h1 a b h.1 h.2
  · exact chk6_e k r h0 h1 a b h.1 h.2
  · exact chk7_e k r h0 h1 a b h.1 h.2
set_option maxHeartbeats 400000 in
theorem nw_long (l P : Nat) (hP : P = 2 ^ l) (hl : l < 8) (k r : Int) (h0 : 0 ≤ k) (h1 : 0 ≤ r) (hr : r ≤ 9223372036854775807) (h : ¬ (k + r ≤ 10 ∧ k + r ≤ (P : Int))) : Ret 8 #[.int .i64 (l : Int), .int .i64 k, .int .i64 r] (.tuple #[.pointer none, .int .i64 2]) := by
  intro W
  have hw : IntKind.i64.wrap (2 ^ l) = (P : Int) := by rw [hP]; exact wrap_two_i l (by omega)
  have hp8 : P ≤ 2 ^ 7 := by rw [hP]; exact Nat.pow_le_pow_right (by decide) (by omega)
  have a1 : ¬ (l : Int) < 0 := by omega
  have a2 : ¬ (7 : Int) < (l : Int) := by omega
  have a5 : (l : Int) < 64 := by omega
  have a6 : min 10 (P : Int) - r < k := by omega
  have a7 : IntKind.i64.wrap (min 10 (P : Int) - r) = min 10 (P : Int) - r := by rw [IntKind.wrap_i64]; omega
  clear hP h
  go_enter Tryd.func8, Tryd.ntmps8
  go_wp2
  refine bodyPost_ret (v := .tuple #[.pointer none, .int .i64 2]) (by simp [results, Tryd.results8, go_sem]) rfl ⟨rfl, ?_⟩
  first | exact Below.refl _ _ | go_grown
end Go.Proofs.YtacnmaeaabekgaaDoor
