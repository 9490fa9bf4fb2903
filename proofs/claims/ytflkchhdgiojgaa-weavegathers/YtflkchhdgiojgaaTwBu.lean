/- Contracts of tower.Bit, Bits, Split and Join, and of steepleref02.Bit and Level, over the seat's translation. -/
import Derived.Test.YtflkchhdgiojgaaTwBt
import Derived.Test.YtflkchhdgiojgaaRfF
import Derived.Test.YtflkchhdgiojgaaTwX
namespace Go.Proofs.Ytflkchhdgiojgaa
open Go.RowKit
open Tw (px pm)

/-- The pair with the bit n alone: none, where there is no such bit. -/
def bv (n : Int) : Nat × Nat := if 0 ≤ n ∧ n ≤ 127 then Tw.bitp n.toNat else (0, 0)
set_option maxHeartbeats 800000 in
theorem rbit_none (n : Int) (h : ¬ (0 ≤ n ∧ n ≤ 127)) : Ret 40 #[.int .i64 n] (.agg #[.int .u64 0, .int .u64 0]) := by
  intro W
  by_cases h0 : 0 ≤ n
  · have h7 : ¬ n ≤ 127 := fun h7 => h ⟨h0, h7⟩
    clear h
    go_enter Try.func40, Try.ntmps40
    go_wp2
    refine bodyPost_ret (v := .agg #[.int .u64 0, .int .u64 0]) (by simp [results, Try.results40, go_sem]) rfl ⟨rfl, ?_⟩
    go_grown
  · clear h
    go_enter Try.func40, Try.ntmps40
    go_wp2
    refine bodyPost_ret (v := .agg #[.int .u64 0, .int .u64 0]) (by simp [results, Try.results40, go_sem]) rfl ⟨rfl, ?_⟩
    go_grown
theorem rbit_any (n : Int) : Ret 40 #[.int .i64 n] (.agg #[.int .u64 ((bv n).1 : Int), .int .u64 ((bv n).2 : Int)]) := by
  unfold bv
  by_cases h : 0 ≤ n ∧ n ≤ 127
  · rw [if_pos h]
    obtain ⟨m, rfl⟩ : ∃ m : Nat, n = (m : Int) := ⟨n.toNat, by omega⟩
    rw [Int.toNat_natCast]
    unfold Tw.bitp
    by_cases h2 : m < 64
    · rw [if_pos h2]; exact rbit_low m h2
    · rw [if_neg h2]; exact rbit_high m (by omega) (by omega)
  · rw [if_neg h]; exact rbit_none n h

end Go.Proofs.Ytflkchhdgiojgaa
