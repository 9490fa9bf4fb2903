/- steeplelaw02.TowerMuls gives true, whatever the input. -/
import Derived.Test.YtdjndcgocmmmcaaTwMu
namespace Go.Proofs.Ytdjndcgocmmmcaa
open Go.RowKit

theorem xv_lt (l : Int) : (xv l).1 < 2 ^ 64 ∧ (xv l).2 < 2 ^ 64 := by
  cases hl : levelB l
  · have e : xv l = (0, 0) := by unfold xv; rw [if_neg (by rw [hl]; decide)]
    rw [e]; decide
  · rcases level_cases l hl with rfl | rfl | rfl | rfl | rfl | rfl | rfl | rfl <;> decide
/-- The law's walk: true, whatever the input. -/
theorem muls_any (l : Int) (ah al bh bl : Nat) (a1 : ah < 2 ^ 64) (a0 : al < 2 ^ 64) (b1 : bh < 2 ^ 64) (b0 : bl < 2 ^ 64) (W : World) :
    Calls Try.prog 3 #[.int .i64 l, .agg #[.int .u64 (ah : Int), .int .u64 (al : Int)], .agg #[.int .u64 (bh : Int), .int .u64 (bl : Int)]] W fun e w' => e = .returned (.bool true) ∧ Below W.heap.size W w' :=
  muls_core l ah al bh bl (xv l).1 (xv l).2 (ah ^^^ bh) (al ^^^ bl) _ _ _ _ _ _ (rx_any l) awake2 (fun W => add_any ah al bh bl a1 a0 b1 b0 W) (radd ah al bh bl a1 a0 b1 b0)
    (mul_any l (ah, al) (bh, bl) a1 a0 b1 b0) (rmul_any l (ah, al) (bh, bl) a1 a0 b1 b0) (square_ret l (ah, al) a1 a0) (rmul_any l (ah, al) (ah, al) a1 a0 a1 a0)
    (mulx_any l (ah, al) a1 a0) (rmul_any l (ah, al) (xv l) a1 a0 (xv_lt l).1 (xv_lt l).2) (x_any l) (lref_any ah al) (lref_any bh bl) (same_any _ _) (same_any _ _) (same_any _ _) (same_any _ _) (same_any _ _) W
end Go.Proofs.Ytdjndcgocmmmcaa
