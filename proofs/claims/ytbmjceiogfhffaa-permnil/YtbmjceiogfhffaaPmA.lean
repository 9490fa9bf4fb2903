/- Contracts of perm's small functions (place, only, at, factors) and of math/bits RotateLeft8 and RotateLeft64, over the seat's translation. -/
import Derived.Test.YtbmjceiogfhffaaProg
import Derived.WalkKit
import Derived.WalkLawsBesides
import Derived.WalkSpells
import Derived.Handy
import Derived.Laws.BitsAllLaws
import Derived.Deep.RegionHeld3
import Derived.Deep.DeepCutAuto
import Derived.Deep.OwnRows
namespace Go.Proofs.Ytbmjceiogfhffaa
open Go.RowKit

/-- Does what it says and leaves the world as it is. -/
def Same (f : Nat) (args : Array Value) (r : Value) : Prop := ∀ W, Calls Try.prog f args W fun e w' => e = .returned r ∧ w' = W
theorem Same.go {f : Nat} {args : Array Value} {r : Value} (h : Same f args r) (W : World) : Calls Try.prog f args W fun e w' => e = .returned r ∧ w' = W := h W

/-- A byte turned left by n bits. -/
def rl8 (x n : Nat) : Nat := (x * 2 ^ n % 256) ||| (x / 2 ^ (8 - n))
/-- A word turned left by n bits. -/
def rl64 (x n : Nat) : Nat := (x * 2 ^ n % 2 ^ 64) ||| (x / 2 ^ (64 - n))
theorem rl8_lt (x n : Nat) (h : x < 256) : rl8 x n < 256 := by
  unfold rl8
  exact Nat.or_lt_two_pow (n := 8) (Nat.mod_lt _ (by decide)) (Nat.lt_of_le_of_lt (Nat.div_le_self _ _) h)
theorem rl64_lt (x n : Nat) (h : x < 2 ^ 64) : rl64 x n < 2 ^ 64 := by
  unfold rl64
  exact Nat.or_lt_two_pow (n := 64) (Nat.mod_lt _ (by decide)) (Nat.lt_of_le_of_lt (Nat.div_le_self _ _) h)
theorem rl8_int (x n P Q : Nat) (hx : x < 256) (hP : P = 2 ^ n) (hQ : Q = 2 ^ (8 - n)) : bits .or .u8 (IntKind.u8.wrap ((x : Int) * (P : Int))) ((x : Int) / (Q : Int)) = ((rl8 x n : Nat) : Int) := by
  have e : IntKind.u8.wrap ((x : Int) * (P : Int)) = ((x * P % 256 : Nat) : Int) := by rw [IntKind.wrap_u8', Int.natCast_emod, Int.natCast_mul]; rfl
  rw [e, ← Int.natCast_ediv, u8_or_nat _ _ (Nat.mod_lt _ (by decide)) (Nat.lt_of_le_of_lt (Nat.div_le_self _ _) hx), hP, hQ]
  rfl
theorem rl64_int (x n P Q : Nat) (hx : x < 2 ^ 64) (hP : P = 2 ^ n) (hQ : Q = 2 ^ (64 - n)) : bits .or .u64 (IntKind.u64.wrap ((x : Int) * (P : Int))) ((x : Int) / (Q : Int)) = ((rl64 x n : Nat) : Int) := by
  have e : IntKind.u64.wrap ((x : Int) * (P : Int)) = ((x * P % 18446744073709551616 : Nat) : Int) := by rw [IntKind.wrap_u64, Int.natCast_emod, Int.natCast_mul]; rfl
  rw [e, ← Int.natCast_ediv, u64_or_nat _ _ (Nat.mod_lt _ (by decide)) (Nat.lt_of_le_of_lt (Nat.div_le_self _ _) hx), hP, hQ]
  rfl
theorem rot8_1 (x : Nat) (hx : x < 256) : Same 45 #[.int .u8 (x : Int), .int .i64 1] (.int .u8 (rl8 x 1 : Nat)) := by
  intro W
  have h : bits .or .u8 ((x : Int) * 2 % 256) ((x : Int) / 128) = ((rl8 x 1 : Nat) : Int) := by have := rl8_int x 1 2 128 hx rfl rfl; rw [IntKind.wrap_u8'] at this; exact this
  have b : bits .and .u64 1 7 = 1 := by decide
  generalize rl8 x 1 = q at *
  go_enter Try.func45, Try.ntmps45
  go_wp2
  go_ret
  exact ⟨rfl, rfl⟩
theorem rot8_2 (x : Nat) (hx : x < 256) : Same 45 #[.int .u8 (x : Int), .int .i64 2] (.int .u8 (rl8 x 2 : Nat)) := by
  intro W
  have h : bits .or .u8 ((x : Int) * 4 % 256) ((x : Int) / 64) = ((rl8 x 2 : Nat) : Int) := by have := rl8_int x 2 4 64 hx rfl rfl; rw [IntKind.wrap_u8'] at this; exact this
  have b : bits .and .u64 2 7 = 2 := by decide
  generalize rl8 x 2 = q at *
  go_enter Try.func45, Try.ntmps45
  go_wp2
  go_ret
  exact ⟨rfl, rfl⟩
theorem rot8_3 (x : Nat) (hx : x < 256) : Same 45 #[.int .u8 (x : Int), .int .i64 3] (.int .u8 (rl8 x 3 : Nat)) := by
  intro W
  have h : bits .or .u8 ((x : Int) * 8 % 256) ((x : Int) / 32) = ((rl8 x 3 : Nat) : Int) := by have := rl8_int x 3 8 32 hx rfl rfl; rw [IntKind.wrap_u8'] at this; exact this
  have b : bits .and .u64 3 7 = 3 := by decide
  generalize rl8 x 3 = q at *
  go_enter Try.func45, Try.ntmps45
  go_wp2
  go_ret
  exact ⟨rfl, rfl⟩
theorem rot8_4 (x : Nat) (hx : x < 256) : Same 45 #[.int .u8 (x : Int), .int .i64 4] (.int .u8 (rl8 x 4 : Nat)) := by
  intro W
  have h : bits .or .u8 ((x : Int) * 16 % 256) ((x : Int) / 16) = ((rl8 x 4 : Nat) : Int) := by have := rl8_int x 4 16 16 hx rfl rfl; rw [IntKind.wrap_u8'] at this; exact this
  have b : bits .and .u64 4 7 = 4 := by decide
  generalize rl8 x 4 = q at *
  go_enter Try.func45, Try.ntmps45
  go_wp2
  go_ret
  exact ⟨rfl, rfl⟩
theorem rot64_0 (x : Nat) (hx : x < 2 ^ 64) : Same 84 #[.int .u64 (x : Int), .int .i64 0] (.int .u64 (rl64 x 0 : Nat)) := by
  intro W
  have h : bits .or .u64 (x : Int) ((x : Int) / 18446744073709551616) = ((rl64 x 0 : Nat) : Int) := by
    rw [show (x : Int) / 18446744073709551616 = 0 by omega]
    rw [show rl64 x 0 = x by unfold rl64; rw [Nat.pow_zero, Nat.mul_one, Nat.mod_eq_of_lt hx, Nat.div_eq_of_lt hx, Nat.or_zero]]
    have := u64_or_nat x 0 hx (by decide)
    rw [Nat.or_zero] at this
    exact this
  have hw : IntKind.u64.wrap (x : Int) = (x : Int) := by rw [IntKind.wrap_u64]; omega
  have b : bits .and .u64 0 63 = 0 := by decide
  generalize rl64 x 0 = q at *
  go_enter Try.func84, Try.ntmps84
  go_wp2
  go_ret
  exact ⟨rfl, rfl⟩
theorem rot64_1 (x : Nat) (hx : x < 2 ^ 64) : Same 84 #[.int .u64 (x : Int), .int .i64 8] (.int .u64 (rl64 x 8 : Nat)) := by
  intro W
  have h : bits .or .u64 (IntKind.u64.wrap ((x : Int) * 256)) ((x : Int) / 72057594037927936) = ((rl64 x 8 : Nat) : Int) := rl64_int x 8 256 72057594037927936 hx rfl rfl
  have b : bits .and .u64 8 63 = 8 := by decide
  generalize rl64 x 8 = q at *
  go_enter Try.func84, Try.ntmps84
  go_wp2
  go_ret
  exact ⟨rfl, rfl⟩
theorem rot64_2 (x : Nat) (hx : x < 2 ^ 64) : Same 84 #[.int .u64 (x : Int), .int .i64 16] (.int .u64 (rl64 x 16 : Nat)) := by
  intro W
  have h : bits .or .u64 (IntKind.u64.wrap ((x : Int) * 65536)) ((x : Int) / 281474976710656) = ((rl64 x 16 : Nat) : Int) := rl64_int x 16 65536 281474976710656 hx rfl rfl
  have b : bits .and .u64 16 63 = 16 := by decide
  generalize rl64 x 16 = q at *
  go_enter Try.func84, Try.ntmps84
  go_wp2
  go_ret
  exact ⟨rfl, rfl⟩
theorem rot64_3 (x : Nat) (hx : x < 2 ^ 64) : Same 84 #[.int .u64 (x : Int), .int .i64 24] (.int .u64 (rl64 x 24 : Nat)) := by
  intro W
  have h : bits .or .u64 (IntKind.u64.wrap ((x : Int) * 16777216)) ((x : Int) / 1099511627776) = ((rl64 x 24 : Nat) : Int) := rl64_int x 24 16777216 1099511627776 hx rfl rfl
  have b : bits .and .u64 24 63 = 24 := by decide
  generalize rl64 x 24 = q at *
  go_enter Try.func84, Try.ntmps84
  go_wp2
  go_ret
  exact ⟨rfl, rfl⟩
theorem rot64_4 (x : Nat) (hx : x < 2 ^ 64) : Same 84 #[.int .u64 (x : Int), .int .i64 32] (.int .u64 (rl64 x 32 : Nat)) := by
  intro W
  have h : bits .or .u64 (IntKind.u64.wrap ((x : Int) * 4294967296)) ((x : Int) / 4294967296) = ((rl64 x 32 : Nat) : Int) := rl64_int x 32 4294967296 4294967296 hx rfl rfl
  have b : bits .and .u64 32 63 = 32 := by decide
  generalize rl64 x 32 = q at *
  go_enter Try.func84, Try.ntmps84
  go_wp2
  go_ret
  exact ⟨rfl, rfl⟩
theorem rot64_5 (x : Nat) (hx : x < 2 ^ 64) : Same 84 #[.int .u64 (x : Int), .int .i64 40] (.int .u64 (rl64 x 40 : Nat)) := by
  intro W
  have h : bits .or .u64 (IntKind.u64.wrap ((x : Int) * 1099511627776)) ((x : Int) / 16777216) = ((rl64 x 40 : Nat) : Int) := rl64_int x 40 1099511627776 16777216 hx rfl rfl
  have b : bits .and .u64 40 63 = 40 := by decide
  generalize rl64 x 40 = q at *
  go_enter Try.func84, Try.ntmps84
  go_wp2
  go_ret
  exact ⟨rfl, rfl⟩
theorem rot64_6 (x : Nat) (hx : x < 2 ^ 64) : Same 84 #[.int .u64 (x : Int), .int .i64 48] (.int .u64 (rl64 x 48 : Nat)) := by
  intro W
  have h : bits .or .u64 (IntKind.u64.wrap ((x : Int) * 281474976710656)) ((x : Int) / 65536) = ((rl64 x 48 : Nat) : Int) := rl64_int x 48 281474976710656 65536 hx rfl rfl
  have b : bits .and .u64 48 63 = 48 := by decide
  generalize rl64 x 48 = q at *
  go_enter Try.func84, Try.ntmps84
  go_wp2
  go_ret
  exact ⟨rfl, rfl⟩
theorem rot64_7 (x : Nat) (hx : x < 2 ^ 64) : Same 84 #[.int .u64 (x : Int), .int .i64 56] (.int .u64 (rl64 x 56 : Nat)) := by
  intro W
  have h : bits .or .u64 (IntKind.u64.wrap ((x : Int) * 72057594037927936)) ((x : Int) / 256) = ((rl64 x 56 : Nat) : Int) := rl64_int x 56 72057594037927936 256 hx rfl rfl
  have b : bits .and .u64 56 63 = 56 := by decide
  generalize rl64 x 56 = q at *
  go_enter Try.func84, Try.ntmps84
  go_wp2
  go_ret
  exact ⟨rfl, rfl⟩
theorem pl_any (c r : Nat) (hc : c < 16) (hr : r < 8) : Same 71 #[.int .i64 (c : Int), .int .i64 (r : Int)] (.int .i64 (((8 * c + r) % 64 : Nat) : Int)) := by
  intro W
  have h : bits .and .i64 (8 * (c : Int) + (r : Int)) 63 = (((8 * c + r) % 64 : Nat) : Int) := by
    have all : ∀ j : Fin 136, bits .and .i64 (j.val : Int) 63 = ((j.val % 64 : Nat) : Int) := by decide +kernel
    have := all ⟨8 * c + r, by omega⟩
    simpa using this
  generalize (8 * c + r) % 64 = q at *
  go_enter Try.func71, Try.ntmps71
  go_wp2
  go_ret
  exact ⟨rfl, rfl⟩
theorem only_0 (b : Nat) (hb : b < 256) : Same 47 #[.int .i64 0, .int .u8 (b : Int)] (.int .u64 ((b * 1 : Nat) : Int)) := by
  intro W

  have h0 : IntKind.u64.wrap (b : Int) = (b : Int) := by rw [IntKind.wrap_u64]; omega
  rw [Nat.mul_one]
  go_enter Try.func47, Try.ntmps47
  go_wp2
  go_ret
  exact ⟨rfl, rfl⟩
theorem at_0 (c : Nat) : Same 49 #[.int .u64 (c : Int), .int .i64 0] (.int .u8 ((c / 1 % 256 : Nat) : Int)) := by
  intro W
  have h : IntKind.u8.wrap ((c : Int) / 1) = ((c / 1 % 256 : Nat) : Int) := by rw [IntKind.wrap_u8', Int.natCast_emod, Int.natCast_ediv]; rfl
  have h0 : IntKind.u8.wrap (c : Int) = ((c / 1 % 256 : Nat) : Int) := by rw [IntKind.wrap_u8', Int.natCast_emod, Nat.div_one]; rfl
  generalize c / 1 % 256 = q at *
  go_enter Try.func49, Try.ntmps49
  go_wp2
  go_ret
  exact ⟨rfl, rfl⟩
theorem only_1 (b : Nat) (hb : b < 256) : Same 47 #[.int .i64 1, .int .u8 (b : Int)] (.int .u64 ((b * 256 : Nat) : Int)) := by
  intro W
  have h : IntKind.u64.wrap ((b : Int) * 256) = ((b * 256 : Nat) : Int) := by rw [IntKind.wrap_u64]; omega
  generalize b * 256 = q at *
  go_enter Try.func47, Try.ntmps47
  go_wp2
  go_ret
  exact ⟨rfl, rfl⟩
theorem at_1 (c : Nat) : Same 49 #[.int .u64 (c : Int), .int .i64 1] (.int .u8 ((c / 256 % 256 : Nat) : Int)) := by
  intro W
  have h : IntKind.u8.wrap ((c : Int) / 256) = ((c / 256 % 256 : Nat) : Int) := by rw [IntKind.wrap_u8', Int.natCast_emod, Int.natCast_ediv]; rfl
  generalize c / 256 % 256 = q at *
  go_enter Try.func49, Try.ntmps49
  go_wp2
  go_ret
  exact ⟨rfl, rfl⟩
theorem only_2 (b : Nat) (hb : b < 256) : Same 47 #[.int .i64 2, .int .u8 (b : Int)] (.int .u64 ((b * 65536 : Nat) : Int)) := by
  intro W
  have h : IntKind.u64.wrap ((b : Int) * 65536) = ((b * 65536 : Nat) : Int) := by rw [IntKind.wrap_u64]; omega
  generalize b * 65536 = q at *
  go_enter Try.func47, Try.ntmps47
  go_wp2
  go_ret
  exact ⟨rfl, rfl⟩
theorem at_2 (c : Nat) : Same 49 #[.int .u64 (c : Int), .int .i64 2] (.int .u8 ((c / 65536 % 256 : Nat) : Int)) := by
  intro W
  have h : IntKind.u8.wrap ((c : Int) / 65536) = ((c / 65536 % 256 : Nat) : Int) := by rw [IntKind.wrap_u8', Int.natCast_emod, Int.natCast_ediv]; rfl
  generalize c / 65536 % 256 = q at *
  go_enter Try.func49, Try.ntmps49
  go_wp2
  go_ret
  exact ⟨rfl, rfl⟩
theorem only_3 (b : Nat) (hb : b < 256) : Same 47 #[.int .i64 3, .int .u8 (b : Int)] (.int .u64 ((b * 16777216 : Nat) : Int)) := by
  intro W
  have h : IntKind.u64.wrap ((b : Int) * 16777216) = ((b * 16777216 : Nat) : Int) := by rw [IntKind.wrap_u64]; omega
  generalize b * 16777216 = q at *
  go_enter Try.func47, Try.ntmps47
  go_wp2
  go_ret
  exact ⟨rfl, rfl⟩
theorem at_3 (c : Nat) : Same 49 #[.int .u64 (c : Int), .int .i64 3] (.int .u8 ((c / 16777216 % 256 : Nat) : Int)) := by
  intro W
  have h : IntKind.u8.wrap ((c : Int) / 16777216) = ((c / 16777216 % 256 : Nat) : Int) := by rw [IntKind.wrap_u8', Int.natCast_emod, Int.natCast_ediv]; rfl
  generalize c / 16777216 % 256 = q at *
  go_enter Try.func49, Try.ntmps49
  go_wp2
  go_ret
  exact ⟨rfl, rfl⟩
theorem only_4 (b : Nat) (hb : b < 256) : Same 47 #[.int .i64 4, .int .u8 (b : Int)] (.int .u64 ((b * 4294967296 : Nat) : Int)) := by
  intro W
  have h : IntKind.u64.wrap ((b : Int) * 4294967296) = ((b * 4294967296 : Nat) : Int) := by rw [IntKind.wrap_u64]; omega
  generalize b * 4294967296 = q at *
  go_enter Try.func47, Try.ntmps47
  go_wp2
  go_ret
  exact ⟨rfl, rfl⟩
theorem at_4 (c : Nat) : Same 49 #[.int .u64 (c : Int), .int .i64 4] (.int .u8 ((c / 4294967296 % 256 : Nat) : Int)) := by
  intro W
  have h : IntKind.u8.wrap ((c : Int) / 4294967296) = ((c / 4294967296 % 256 : Nat) : Int) := by rw [IntKind.wrap_u8', Int.natCast_emod, Int.natCast_ediv]; rfl
  generalize c / 4294967296 % 256 = q at *
  go_enter Try.func49, Try.ntmps49
  go_wp2
  go_ret
  exact ⟨rfl, rfl⟩
theorem only_5 (b : Nat) (hb : b < 256) : Same 47 #[.int .i64 5, .int .u8 (b : Int)] (.int .u64 ((b * 1099511627776 : Nat) : Int)) := by
  intro W
  have h : IntKind.u64.wrap ((b : Int) * 1099511627776) = ((b * 1099511627776 : Nat) : Int) := by rw [IntKind.wrap_u64]; omega
  generalize b * 1099511627776 = q at *
  go_enter Try.func47, Try.ntmps47
  go_wp2
  go_ret
  exact ⟨rfl, rfl⟩
theorem at_5 (c : Nat) : Same 49 #[.int .u64 (c : Int), .int .i64 5] (.int .u8 ((c / 1099511627776 % 256 : Nat) : Int)) := by
  intro W
  have h : IntKind.u8.wrap ((c : Int) / 1099511627776) = ((c / 1099511627776 % 256 : Nat) : Int) := by rw [IntKind.wrap_u8', Int.natCast_emod, Int.natCast_ediv]; rfl
  generalize c / 1099511627776 % 256 = q at *
  go_enter Try.func49, Try.ntmps49
  go_wp2
  go_ret
  exact ⟨rfl, rfl⟩
theorem only_6 (b : Nat) (hb : b < 256) : Same 47 #[.int .i64 6, .int .u8 (b : Int)] (.int .u64 ((b * 281474976710656 : Nat) : Int)) := by
  intro W
  have h : IntKind.u64.wrap ((b : Int) * 281474976710656) = ((b * 281474976710656 : Nat) : Int) := by rw [IntKind.wrap_u64]; omega
  generalize b * 281474976710656 = q at *
  go_enter Try.func47, Try.ntmps47
  go_wp2
  go_ret
  exact ⟨rfl, rfl⟩
theorem at_6 (c : Nat) : Same 49 #[.int .u64 (c : Int), .int .i64 6] (.int .u8 ((c / 281474976710656 % 256 : Nat) : Int)) := by
  intro W
  have h : IntKind.u8.wrap ((c : Int) / 281474976710656) = ((c / 281474976710656 % 256 : Nat) : Int) := by rw [IntKind.wrap_u8', Int.natCast_emod, Int.natCast_ediv]; rfl
  generalize c / 281474976710656 % 256 = q at *
  go_enter Try.func49, Try.ntmps49
  go_wp2
  go_ret
  exact ⟨rfl, rfl⟩
theorem only_7 (b : Nat) (hb : b < 256) : Same 47 #[.int .i64 7, .int .u8 (b : Int)] (.int .u64 ((b * 72057594037927936 : Nat) : Int)) := by
  intro W
  have h : IntKind.u64.wrap ((b : Int) * 72057594037927936) = ((b * 72057594037927936 : Nat) : Int) := by rw [IntKind.wrap_u64]; omega
  generalize b * 72057594037927936 = q at *
  go_enter Try.func47, Try.ntmps47
  go_wp2
  go_ret
  exact ⟨rfl, rfl⟩
theorem at_7 (c : Nat) : Same 49 #[.int .u64 (c : Int), .int .i64 7] (.int .u8 ((c / 72057594037927936 % 256 : Nat) : Int)) := by
  intro W
  have h : IntKind.u8.wrap ((c : Int) / 72057594037927936) = ((c / 72057594037927936 % 256 : Nat) : Int) := by rw [IntKind.wrap_u8', Int.natCast_emod, Int.natCast_ediv]; rfl
  generalize c / 72057594037927936 % 256 = q at *
  go_enter Try.func49, Try.ntmps49
  go_wp2
  go_ret
  exact ⟨rfl, rfl⟩
theorem factors_any (W : World) : Calls Try.prog 27 #[] W fun e w' => e = .returned (.agg #[.int .i64 2, .int .i64 2, .int .i64 3, .int .i64 4, .int .i64 5, .int .i64 3, .int .i64 5, .int .i64 7]) ∧ Below W.heap.size W w' := by
  go_enter Try.func27, Try.ntmps27
  go_wp2
  refine bodyPost_ret (v := .agg #[.int .i64 2, .int .i64 2, .int .i64 3, .int .i64 4, .int .i64 5, .int .i64 3, .int .i64 5, .int .i64 7]) (by simp [results, Try.results27, go_sem]) rfl ⟨rfl, ?_⟩
  go_grown
end Go.Proofs.Ytbmjceiogfhffaa
