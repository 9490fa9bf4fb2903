/- steeplelaw02.TowerLevels gives true, whatever the input. -/
import Derived.Test.YtogecppdeoinhaaTwLv
import Derived.Test.YtogecppdeoinhaaTwY
namespace Go.Proofs.Ytogecppdeoinhaa
open Go.RowKit

/-- The law's walk: true, whatever the input. -/
theorem levels_any (level above : Int) (ah al bh bl ch cl : Nat) (a1 : ah < 2 ^ 64) (a0 : al < 2 ^ 64) (b1 : bh < 2 ^ 64) (b0 : bl < 2 ^ 64) (W : World) :
    Calls Try.prog 8 #[.int .i64 level, .int .i64 above, .agg #[.int .u64 (ah : Int), .int .u64 (al : Int), .int .u64 (bh : Int), .int .u64 (bl : Int), .int .u64 (ch : Int), .int .u64 (cl : Int)]] W fun e w' => e = .returned (.bool true) ∧ Below W.heap.size W w' := by
  obtain ⟨k, hk, fk⟩ := cut_level level
  obtain ⟨j, hj, fj⟩ := cut_level above
  have X := cut_closed k hk (ah, al) a0
  have Y := cut_closed k hk (bh, bl) b0
  obtain ⟨x1, x0⟩ := cut_lt k (ah, al) a1 a0
  obtain ⟨y1, y0⟩ := cut_lt k (bh, bl) b1 b0
  have HOF := cut2_of level k hk fk ah al bh bl a0 b0
  generalize cutE k (ah, al) = x at *
  generalize cutE k (bh, bl) = y at *
  obtain ⟨xh, xl⟩ := x
  obtain ⟨yh, yl⟩ := y
  simp only at X Y x1 x0 y1 y0 HOF
  obtain ⟨up, hup, hle, fu⟩ : ∃ up : Nat, up < 8 ∧ k ≤ up ∧ min ((k : Int) + j) 7 = (up : Int) := ⟨min (k + j) 7, by omega, by omega, by omega⟩
  have X2 := of_up hk hup hle X
  have Y2 := of_up hk hup hle Y
  have O1 := of_ret k (Tw.pmh xh xl yh yl) (Tw.pml xh xl yh yl) (Tw.pml_lt _ _ _ _)
  rw [of_pm hk X Y] at O1
  have O2 := of_ret k (Tw.ivh xh xl) (Tw.ivl xh xl) (Tw.ivl_lt _ _)
  rw [of_iv hk X] at O2
  exact levels_core level above k j up ah al bh bl ch cl xh xl yh yl _ _ _ _ _ _ fj (by omega) (by omega) (by omega) (by omega) fu HOF (fun W => mul_of k xh xl yh yl X Y x1 x0 y1 y0 W) (fun W => mul_of up xh xl yh yl X2 Y2 x1 x0 y1 y0 W) (inv_of k xh xl X x1 x0) (inv_of up xh xl X2 x1 x0) (fun W => square_of k xh xl X x1 x0 W) (fun W => square_of up xh xl X2 x1 x0 W) O1 O2 awake2 W
end Go.Proofs.Ytogecppdeoinhaa
