/- steeplelaw02.TowerPowers gives true, whatever the input. -/
import Derived.Test.YtdjndcgocmmmcaaTwPo
import Derived.Test.YtdjndcgocmmmcaaTwPx
namespace Go.Proofs.Ytdjndcgocmmmcaa
open Go.RowKit

theorem tmod_nat (m : Nat) : (m : Int).tmod 1000 = ((m % 1000 : Nat) : Int) := by
  rw [Int.tmod_eq_emod_of_nonneg (by omega)]; omega
set_option maxHeartbeats 1000000 in
/-- The law's walk: true, whatever the input. -/
theorem powers_any (level : Int) (ah al m n : Nat) (a1 : ah < 2 ^ 64) (a0 : al < 2 ^ 64) (hm : m < 4294967296) (hn : n < 4294967296) (W : World) :
    Calls Try.prog 7 #[.int .i64 level, .agg #[.int .u64 (ah : Int), .int .u64 (al : Int)], .agg #[.int .u32 (m : Int), .int .u32 (n : Int)]] W fun e w' => e = .returned (.bool true) ∧ Below W.heap.size W w' := by
  obtain ⟨k, hk, fk⟩ := cut_level level
  have X := cut_closed k hk (ah, al) a0
  obtain ⟨x1, x0⟩ := cut_lt k (ah, al) a1 a0
  have HOF := cut1_of level k hk fk ah al a0
  generalize cutE k (ah, al) = x at *
  obtain ⟨xh, xl⟩ := x
  simp only at X x1 x0 HOF
  have hm1 : m % 1000 < 1000 := Nat.mod_lt _ (by decide)
  have hn1 : n % 1000 < 1000 := Nat.mod_lt _ (by decide)
  have hmn : m % 1000 * (n % 1000) < 1000000 := Nat.mul_lt_mul'' hm1 hn1
  have w1 : IntKind.u64.wrap ((m : Int) + (n : Int)) = ((m + n : Nat) : Int) := by rw [IntKind.wrap_u64]; omega
  have w2 : IntKind.u64.wrap ((m : Int).tmod 1000 * (n : Int).tmod 1000) = ((m % 1000 * (n % 1000) : Nat) : Int) := by
    rw [tmod_nat, tmod_nat, ← Int.natCast_mul, IntKind.wrap_u64]
    generalize m % 1000 * (n % 1000) = z at *
    omega
  have P1 := pow_of k xh xl (m + n) X x1 x0 (by omega)
  have P6 := pow_of k xh xl (m % 1000 * (n % 1000)) X x1 x0 (by omega)
  have P4 := pow_of k xh xl (m % 1000) X x1 x0 (by omega)
  have P5 := pow_of k (Tw.pph xh xl (m % 1000)) (Tw.ppl xh xl (m % 1000)) (n % 1000) (of_pp hk X _) (Tw.pph_lt _ _ _) (Tw.ppl_lt _ _ _) (by omega)
  rw [(Tw.pp_pp xh xl (m % 1000) (n % 1000)).1, (Tw.pp_pp xh xl (m % 1000) (n % 1000)).2] at P5
  rw [← w1] at P1
  rw [← w2] at P6
  rw [← tmod_nat m] at P4
  rw [← tmod_nat n] at P5
  refine powers_core level k ah al m n xh xl _ _ _ _ _ _ _ _ _ _ hm hn HOF P1 (pow_of k xh xl m X x1 x0 (by omega)) (pow_of k xh xl n X x1 x0 (by omega)) (fun W => ?_) P4 P5 P6 awake2 W
  have := mul_of k (Tw.pph xh xl m) (Tw.ppl xh xl m) (Tw.pph xh xl n) (Tw.ppl xh xl n) (of_pp hk X m) (of_pp hk X n) (Tw.pph_lt _ _ _) (Tw.ppl_lt _ _ _) (Tw.pph_lt _ _ _) (Tw.ppl_lt _ _ _) W
  rwa [(Tw.pp_mul xh xl m n).1, (Tw.pp_mul xh xl m n).2] at this
end Go.Proofs.Ytdjndcgocmmmcaa
