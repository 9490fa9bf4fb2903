/- The walk of tower.inverse over the seat's translation, one level. -/
import Derived.Test.YtccaobfhldfamaaTwBl
import Derived.Test.YtccaobfhldfamaaTwM
import Derived.Test.YtccaobfhldfamaaTwT
namespace Go.Proofs.Ytccaobfhldfamaa
open Go.RowKit

end Go.Proofs.Ytccaobfhldfamaa

/- Contracts of tower.inverse, Inv and Div over the seat's translation: the inverse of the field. -/
namespace Go.Proofs.Ytccaobfhldfamaa
open Go.RowKit
open Tw (px ik gn)

theorem level_ret (hi lo : Nat) (hl : lo < 2 ^ 64) : Ret 34 #[.agg #[.int .u64 (hi : Int), .int .u64 (lo : Int)]] (.int .i64 (lvl hi lo)) := fun W => (level_any hi lo hl W).mono fun _ _ ⟨h1, h2⟩ => ⟨h1, by rw [h2]; exact (Below.refl _ _).alloc (Nat.le_refl _) _⟩

theorem add_ret (ah al bh bl : Nat) (h1 : ah < 2 ^ 64) (h2 : al < 2 ^ 64) (h3 : bh < 2 ^ 64) (h4 : bl < 2 ^ 64) : Ret 19 #[.agg #[.int .u64 (ah : Int), .int .u64 (al : Int)], .agg #[.int .u64 (bh : Int), .int .u64 (bl : Int)]] (.agg #[.int .u64 (ah ^^^ bh : Nat), .int .u64 (al ^^^ bl : Nat)]) := fun W => add_any ah al bh bl h1 h2 h3 h4 W
theorem add_low (a b : Nat) (h2 : a < 2 ^ 64) (h4 : b < 2 ^ 64) : Ret 19 #[.agg #[.int .u64 ((0 : Nat) : Int), .int .u64 (a : Int)], .agg #[.int .u64 ((0 : Nat) : Int), .int .u64 (b : Int)]] (.agg #[.int .u64 ((0 : Nat) : Int), .int .u64 (a ^^^ b : Nat)]) := add_ret 0 a 0 b (by decide) h2 (by decide) h4
theorem product_low (a b : Nat) (h2 : a < 2 ^ 64) (h4 : b < 2 ^ 64) : Ret 28 #[.agg #[.int .u64 ((0 : Nat) : Int), .int .u64 (a : Int)], .agg #[.int .u64 ((0 : Nat) : Int), .int .u64 (b : Int)]] (.agg #[.int .u64 ((0 : Nat) : Int), .int .u64 (px a b : Nat)]) := fun W => by
  have := product_any 0 a 0 b (by decide) h2 (by decide) h4 W
  rwa [Tw.pmh_low, Tw.pml_low] at this
theorem of_low_ret (l : Nat) (hl : l < 8) (a : Nat) (h : a < 2 ^ 2 ^ l) (h2 : a < 2 ^ 64) : Ret 27 #[.int .i64 (l : Int), .agg #[.int .u64 ((0 : Nat) : Int), .int .u64 (a : Int)]] (.bool true) := by
  have := of_ret l 0 a h2
  rwa [(ofB_iff l 0 a hl).2 (.inr ⟨rfl, h⟩)] at this
theorem div_int (a D : Nat) : (a : Int) / (D : Int) = ((a / D : Nat) : Int) := by simp
theorem or_join (u v m : Nat) (hu : u * 2 ^ m < 2 ^ 64) (hv : v < 2 ^ m) (hv2 : v < 2 ^ 64) : bits .or .u64 ((u * 2 ^ m : Nat) : Int) (v : Int) = ((2 ^ m * u + v : Nat) : Int) := by
  rw [u64_or_nat _ _ hu hv2, Nat.mul_comm u, Nat.two_pow_add_eq_or_of_lt hv]

theorem ik0 (a : Nat) (h : a < 2) : ik 0 a = a := by
  have h2 : a = 0 ∨ a = 1 := by omega
  rcases h2 with rfl | rfl <;> decide
end Go.Proofs.Ytccaobfhldfamaa
