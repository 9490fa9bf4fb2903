/- A nil space: contracts of linpoly's methods over the seat's translation. -/
import Derived.Test.YtgnilfbnijoppaaTwMx
import Derived.BigQuiet
namespace Go.Proofs.Ytgnilfbnijoppaa
open Go.RowKit

set_option maxHeartbeats 400000 in
theorem nil_level : Ret 13 #[.pointer none] (.int .i64 0) := by
  intro W
  go_enter Try.func13, Try.ntmps13
  go_wp2
  go_ret
  exact ⟨rfl, by first | exact Below.refl _ _ | go_grown⟩
set_option maxHeartbeats 400000 in
theorem nil_dim : Ret 14 #[.pointer none] (.int .i64 0) := by
  intro W
  go_enter Try.func14, Try.ntmps14
  go_wp2
  go_ret
  exact ⟨rfl, by first | exact Below.refl _ _ | go_grown⟩
set_option maxHeartbeats 400000 in
theorem nil_has (i : Int) (xh xl : Nat) : Ret 39 #[.pointer none, .int .i64 i, .agg #[.int .u64 (xh : Int), .int .u64 (xl : Int)]] (.bool false) := by
  intro W
  go_enter Try.func39, Try.ntmps39
  go_wp2
  go_quiet (fail)
  go_wp2
  go_ret
  refine ⟨rfl, ?_⟩
  exact below_drewN ((Below.refl _ _).alloc (Nat.le_refl _) _) _
set_option maxHeartbeats 400000 in
theorem nil_point (j : Int) : Ret 17 #[.pointer none, .int .i64 j] (.agg #[.int .u64 0, .int .u64 0]) := by
  intro W
  go_enter Try.func17, Try.ntmps17
  go_wp2
  refine bodyPost_ret (v := .agg #[.int .u64 0, .int .u64 0]) (by simp [results, Try.results17, go_sem]) rfl ⟨rfl, ?_⟩
  go_grown
set_option maxHeartbeats 400000 in
theorem nil_points (i : Int) (xh xl : Nat) : Ret 15 #[.pointer none, .int .i64 i, .agg #[.int .u64 (xh : Int), .int .u64 (xl : Int)]] (.slice none 0 0) := by
  intro W
  have H := nil_has i xh xl
  go_enter Try.func15, Try.ntmps15
  go_wp2_with fail
  refine (H.go _).mono ?_
  rintro e w1 ⟨rfl, hb1⟩
  have D : Below W.heap.size W w1 := ((Below.refl _ _).alloc (Nat.le_refl _) _).trans (hb1.mono (by simp <;> omega))
  clear hb1
  go_wp2
  go_ret
  exact ⟨rfl, D⟩
set_option maxHeartbeats 400000 in
theorem nil_coeffs (i : Int) : Ret 31 #[.pointer none, .int .i64 i] (.slice none 0 0) := by
  intro W
  have H := nil_has i 0 0
  go_enter Try.func31, Try.ntmps31
  go_wp2_with fail
  refine (H.go _).mono ?_
  rintro e w1 ⟨rfl, hb1⟩
  clear H
  go_wp2
  go_ret
  exact ⟨rfl, hb1⟩
set_option maxHeartbeats 400000 in
theorem nil_value (i : Int) (xh xl : Nat) : Ret 24 #[.pointer none, .int .i64 i, .agg #[.int .u64 (xh : Int), .int .u64 (xl : Int)]] (.agg #[.int .u64 0, .int .u64 0]) := by
  intro W
  have H := nil_has i xh xl
  go_enter Try.func24, Try.ntmps24
  go_wp2_with fail
  refine (H.go _).mono ?_
  rintro e w1 ⟨rfl, hb1⟩
  have R : Ew w1 (W.heap.size + 1) 0 0 := Ew.below ⟨⟨by simp [go_sem], by simp [go_sem]⟩, by simp [go_sem], by simp [go_sem]⟩ hb1
  have D : Below W.heap.size W w1 := (((Below.refl _ _).alloc (Nat.le_refl _) _).alloc (by simp) _).trans (hb1.mono (by simp <;> omega))
  obtain ⟨⟨r1, r0⟩, f1, f0⟩ := R
  clear hb1 H
  go_wp2
  refine bodyPost_ret (v := .agg #[.int .u64 0, .int .u64 0]) (by simp [results, Try.results24, go_sem, *]) rfl ⟨rfl, ?_⟩
  exact below2 D (by omega) _ _
set_option maxHeartbeats 400000 in
theorem nil_norm (i : Int) (xh xl : Nat) : Ret 25 #[.pointer none, .int .i64 i, .agg #[.int .u64 (xh : Int), .int .u64 (xl : Int)]] (.agg #[.int .u64 0, .int .u64 0]) := by
  intro W
  have H := nil_has i xh xl
  go_enter Try.func25, Try.ntmps25
  go_wp2_with fail
  refine (H.go _).mono ?_
  rintro e w1 ⟨rfl, hb1⟩
  have R : Ew w1 (W.heap.size + 1) 0 0 := Ew.below ⟨⟨by simp [go_sem], by simp [go_sem]⟩, by simp [go_sem], by simp [go_sem]⟩ hb1
  have D : Below W.heap.size W w1 := (((Below.refl _ _).alloc (Nat.le_refl _) _).alloc (by simp) _).trans (hb1.mono (by simp <;> omega))
  obtain ⟨⟨r1, r0⟩, f1, f0⟩ := R
  clear hb1 H
  go_wp2
  refine bodyPost_ret (v := .agg #[.int .u64 0, .int .u64 0]) (by simp [results, Try.results25, go_sem, *]) rfl ⟨rfl, ?_⟩
  exact below2 D (by omega) _ _
end Go.Proofs.Ytgnilfbnijoppaa
