/- Rows of a list of one element: contracts of span's long, reduce and add over the seat's translation. -/
import Derived.Test.YtgnilfbnijoppaaTwMx
import Derived.Test.YtgnilfbnijoppaaSlA
import Derived.Test.YtgnilfbnijoppaaPeel
namespace Go.Proofs.Ytgnilfbnijoppaa
open Go.RowKit

set_option maxHeartbeats 400000 in
theorem long_low (l L : Nat) (HL : Hid (∀ W, Calls Try.prog 70 #[.int .u64 (l : Int)] W fun e w' => e = .returned (.int .i64 (L : Int)) ∧ w' = W)) : Ret 60 #[.agg #[.int .u64 0, .int .u64 (l : Int)]] (.int .i64 (L : Int)) := by
  intro W
  go_enter Try.func60, Try.ntmps60
  go_wp2_with (go_at_call 70; refine (HL.out _).mono ?_; rintro e w3 ⟨rfl, rfl⟩)
  go_ret
  exact ⟨rfl, by go_grown⟩
theorem long_one : Ret 60 #[.agg #[.int .u64 0, .int .u64 1]] (.int .i64 1) := by
  have := long_low 1 1 (fun W => by have := len64_any 1 W (by decide) (by decide); exact this)
  exact this
set_option maxHeartbeats 1000000 in
/-- Nothing is taken where there are no rows. -/
theorem reduce_none (v : Value) (xh xl : Nat) : Ret 50 #[.agg #[.slice none 0 0, v], .agg #[.int .u64 (xh : Int), .int .u64 (xl : Int)]] (.tuple #[.agg #[.int .u64 (xh : Int), .int .u64 (xl : Int)], .agg #[.int .u64 0, .int .u64 0]]) := by
  intro W
  go_enter Try.func50, Try.ntmps50
  go_wp2_with fail
  go_rounds 1
  go_region
  all_goals
    go_wp2
    refine bodyPost_ret (v := .tuple #[.agg #[.int .u64 (xh : Int), .int .u64 (xl : Int)], .agg #[.int .u64 0, .int .u64 0]]) (by simp [results, Try.results50, go_sem]) rfl ⟨rfl, ?_⟩
    go_grown
end Go.Proofs.Ytgnilfbnijoppaa
