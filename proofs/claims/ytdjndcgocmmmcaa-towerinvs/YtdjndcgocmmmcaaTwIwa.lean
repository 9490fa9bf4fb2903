/- steeplelaw02.TowerInvs gives true, whatever the input. -/
import Derived.Test.YtdjndcgocmmmcaaTwIw
import Derived.Test.YtdjndcgocmmmcaaTwIn
namespace Go.Proofs.Ytdjndcgocmmmcaa
open Go.RowKit

theorem mod61 (n : Int) : ∃ m : Nat, m < 61 ∧ (wrap64 (n.tmod 61 + 61)).tmod 61 = (m : Int) := by
  have h1 : -61 < n.tmod 61 := by have := Int.lt_tmod_of_pos n (show (0 : Int) < 61 by decide); omega
  have h2 : n.tmod 61 < 61 := Int.tmod_lt_of_pos n (by decide)
  have e : wrap64 (n.tmod 61 + 61) = n.tmod 61 + 61 := by unfold wrap64; omega
  rw [e, Int.tmod_eq_emod_of_nonneg (by omega)]
  exact ⟨((n.tmod 61 + 61) % 61).toNat, by omega, by omega⟩
/-- The law's walk: true, whatever the input. -/
theorem invs_any (l n : Int) (ah al : Nat) (a1 : ah < 2 ^ 64) (a0 : al < 2 ^ 64) (W : World) :
    Calls Try.prog 5 #[.int .i64 l, .agg #[.int .u64 (ah : Int), .int .u64 (al : Int)], .int .i64 n] W fun e w' => e = .returned (.bool true) ∧ Below W.heap.size W w' := by
  obtain ⟨m, hm, fm⟩ := mod61 n
  have HP := pow_any l (ah, al) m a1 a0 (by omega)
  have em : IntKind.u64.wrap (m : Int) = (m : Int) := by rw [IntKind.wrap_u64]; omega
  rw [← em] at HP
  have hI := invv_lt l (ah, al)
  have HM := mul_any l (0, 1) (invv l (ah, al)) (by decide) (by decide) hI.1 hI.2
  exact invs_core l n m ah al (invv l (ah, al)).1 (invv l (ah, al)).2 _ _ _ _ fm awake2 (inv_any l (ah, al) a1 a0) (rinv_any l (ah, al) a1 a0) HP (rpow_any l (ah, al) m a1 a0 (by omega)) one_any
    (div_ok l 0 1 ah al _ _ _ _ (inv_any l (ah, al) a1 a0) HM) HM (lref_any ah al) (same_any _ _) (same_any _ _) W
end Go.Proofs.Ytdjndcgocmmmcaa
