/- Contract of tower.Pow over the seat's translation: the power of the field. -/
import Derived.Test.YtdjndcgocmmmcaaTwPw
import Derived.Test.YtdjndcgocmmmcaaTwPp
namespace Go.Proofs.Ytdjndcgocmmmcaa
open Go.RowKit

theorem of_pp {k xh xl : Nat} (hk : k < 8) (X : ofB (k : Int) (xh : Int) (xl : Int) = true) : ∀ n, ofB (k : Int) (Tw.pph xh xl n : Nat) (Tw.ppl xh xl n : Nat) = true
  | 0 => by rw [(Tw.pp_zero xh xl).1, (Tw.pp_zero xh xl).2]; exact of_one k hk
  | n + 1 => by rw [← (Tw.pp_succ xh xl n).1, ← (Tw.pp_succ xh xl n).2]; exact of_pm hk (of_pp hk X n) X
theorem pow_of (l : Int) (xh xl n : Nat) (ho : ofB l xh xl = true) (h1 : xh < 2 ^ 64) (h2 : xl < 2 ^ 64) (hn : n < 2 ^ 64) :
    Ret 31 #[.int .i64 l, .agg #[.int .u64 (xh : Int), .int .u64 (xl : Int)], .int .u64 (n : Int)] (.agg #[.int .u64 (Tw.pph xh xl n : Nat), .int .u64 (Tw.ppl xh xl n : Nat)]) := by
  have HO : Ret 28 #[.int .i64 l, .agg #[.int .u64 (xh : Int), .int .u64 (xl : Int)]] (.bool true) := fun W => by
    have := of_any l xh xl (by omega) (by omega) W
    rwa [ho] at this
  have hb : Lib.bitLen n ≤ 64 ∧ n < 2 ^ Lib.bitLen n := by
    by_cases h0 : n = 0
    · subst h0; exact ⟨by decide, by decide⟩
    · exact ⟨(bitLen_le_iff n 64 h0 hn).2 hn, (bitLen_range n h0 hn).2.2⟩
  have := pow_core l xh xl n (Lib.bitLen n) (Tw.sqp xh xl) (fun j => (Tw.pph xh xl (n % 2 ^ j), Tw.ppl xh xl (n % 2 ^ j))) hn hb.1 HO one_any
    (fun W => by have := len64_any n W (by omega) (by omega); rwa [Int.toNat_natCast] at this) rfl
    (show (Tw.pph xh xl (n % 2 ^ 0), Tw.ppl xh xl (n % 2 ^ 0)) = (0, 1) by rw [Nat.pow_zero, Nat.mod_one, (Tw.pp_zero xh xl).1, (Tw.pp_zero xh xl).2])
    (fun i W => square_any _ _ (Tw.sqp_lt h1 h2 i).1 (Tw.sqp_lt h1 h2 i).2 W)
    (fun i hi W => by
      have := product_any (Tw.pph xh xl (n % 2 ^ i)) (Tw.ppl xh xl (n % 2 ^ i)) (Tw.sqp xh xl i).1 (Tw.sqp xh xl i).2 (Tw.pph_lt _ _ _) (Tw.ppl_lt _ _ _) (Tw.sqp_lt h1 h2 i).1 (Tw.sqp_lt h1 h2 i).2 W
      rwa [(Tw.pp_step xh xl n i hi).1, (Tw.pp_step xh xl n i hi).2] at this)
    (fun i hi => by
      show (Tw.pph xh xl (n % 2 ^ (i + 1)), Tw.ppl xh xl (n % 2 ^ (i + 1))) = (Tw.pph xh xl (n % 2 ^ i), Tw.ppl xh xl (n % 2 ^ i))
      rw [Nat.pow_succ, Nat.mod_mul, hi, Nat.mul_zero, Nat.add_zero])
  rw [show n % 2 ^ Lib.bitLen n = n from Nat.mod_eq_of_lt hb.2] at this
  exact this
end Go.Proofs.Ytdjndcgocmmmcaa
