/- Contracts of perm's small functions, of math/bits RotateLeft8 and RotateLeft64, and of perm's mixers over a table that lies in memory, over the seat's translation. -/
import Derived.Test.YtopmkooegpaeaaaGreatProg
import Derived.WalkKit
import Derived.WalkLawsBesides
import Derived.WalkSpells
import Derived.Handy
import Derived.Laws.BitsAllLaws
import Derived.Deep.RegionHeld3
import Derived.Deep.DeepCutAuto
import Derived.Deep.OwnRows
import Derived.RegionTactic
import Derived.Deep.QuietTactic
import Derived.BigQuiet
import Derived.BigRegion
namespace Go.Proofs.YtopmkooegpaeaaaGreat
open Go.RowKit

/-- Does what it says and leaves the world as it is. -/
def Same (f : Nat) (args : Array Value) (r : Value) : Prop := ∀ W, Calls Tryz.prog f args W fun e w' => e = .returned r ∧ w' = W
theorem Same.go {f : Nat} {args : Array Value} {r : Value} (h : Same f args r) (W : World) : Calls Tryz.prog f args W fun e w' => e = .returned r ∧ w' = W := h W

/-- A byte turned left by n bits. -/
def rl8 (x n : Nat) : Nat := (x * 2 ^ n % 256) ||| (x / 2 ^ (8 - n))
/-- A word turned left by n bits. -/
def rl64 (x n : Nat) : Nat := (x * 2 ^ n % 2 ^ 64) ||| (x / 2 ^ (64 - n))
theorem rl8_lt (x n : Nat) (h : x < 256) : rl8 x n < 256 := by
  unfold rl8
  exact Nat.or_lt_two_pow (n := 8) (Nat.mod_lt _ (by decide)) (Nat.lt_of_le_of_lt (Nat.div_le_self _ _) h)
theorem rl64_lt (x n : Nat) (h : x < 2 ^ 64) : rl64 x n < 2 ^ 64 := by
  unfold rl64
  exact Nat.or_lt_two_pow (n := 64) (Nat.mod_lt _ (by decide)) (Nat.lt_of_le_of_lt (Nat.div_le_self _ _) h)
theorem rl8_int (x n P Q : Nat) (hx : x < 256) (hP : P = 2 ^ n) (hQ : Q = 2 ^ (8 - n)) : bits .or .u8 (IntKind.u8.wrap ((x : Int) * (P : Int))) ((x : Int) / (Q : Int)) = ((rl8 x n : Nat) : Int) := by
  have e : IntKind.u8.wrap ((x : Int) * (P : Int)) = ((x * P % 256 : Nat) : Int) := by rw [IntKind.wrap_u8', Int.natCast_emod, Int.natCast_mul]; rfl
  rw [e, ← Int.natCast_ediv, u8_or_nat _ _ (Nat.mod_lt _ (by decide)) (Nat.lt_of_le_of_lt (Nat.div_le_self _ _) hx), hP, hQ]
  rfl
theorem rl64_int (x n P Q : Nat) (hx : x < 2 ^ 64) (hP : P = 2 ^ n) (hQ : Q = 2 ^ (64 - n)) : bits .or .u64 (IntKind.u64.wrap ((x : Int) * (P : Int))) ((x : Int) / (Q : Int)) = ((rl64 x n : Nat) : Int) := by
  have e : IntKind.u64.wrap ((x : Int) * (P : Int)) = ((x * P % 18446744073709551616 : Nat) : Int) := by rw [IntKind.wrap_u64, Int.natCast_emod, Int.natCast_mul]; rfl
  rw [e, ← Int.natCast_ediv, u64_or_nat _ _ (Nat.mod_lt _ (by decide)) (Nat.lt_of_le_of_lt (Nat.div_le_self _ _) hx), hP, hQ]
  rfl
theorem rot8_1 (x : Nat) (hx : x < 256) : Same 44 #[.int .u8 (x : Int), .int .i64 1] (.int .u8 (rl8 x 1 : Nat)) := by
  intro W
  have h : bits .or .u8 ((x : Int) * 2 % 256) ((x : Int) / 128) = ((rl8 x 1 : Nat) : Int) := by have := rl8_int x 1 2 128 hx rfl rfl; rw [IntKind.wrap_u8'] at this; exact this
  have b : bits .and .u64 1 7 = 1 := by decide
  generalize rl8 x 1 = q at *
  go_enter Tryz.func44, Tryz.ntmps44
  go_wp2
  go_ret
  exact ⟨rfl, rfl⟩
theorem rot8_2 (x : Nat) (hx : x < 256) : Same 44 #[.int .u8 (x : Int), .int .i64 2] (.int .u8 (rl8 x 2 : Nat)) := by
  intro W
  have h : bits .or .u8 ((x : Int) * 4 % 256) ((x : Int) / 64) = ((rl8 x 2 : Nat) : Int) := by have := rl8_int x 2 4 64 hx rfl rfl; rw [IntKind.wrap_u8'] at this; exact this
  have b : bits .and .u64 2 7 = 2 := by decide
  generalize rl8 x 2 = q at *
  go_enter Tryz.func44, Tryz.ntmps44
  go_wp2
  go_ret
  exact ⟨rfl, rfl⟩
theorem rot8_3 (x : Nat) (hx : x < 256) : Same 44 #[.int .u8 (x : Int), .int .i64 3] (.int .u8 (rl8 x 3 : Nat)) := by
  intro W
  have h : bits .or .u8 ((x : Int) * 8 % 256) ((x : Int) / 32) = ((rl8 x 3 : Nat) : Int) := by have := rl8_int x 3 8 32 hx rfl rfl; rw [IntKind.wrap_u8'] at this; exact this
  have b : bits .and .u64 3 7 = 3 := by decide
  generalize rl8 x 3 = q at *
  go_enter Tryz.func44, Tryz.ntmps44
  go_wp2
  go_ret
  exact ⟨rfl, rfl⟩
theorem rot8_4 (x : Nat) (hx : x < 256) : Same 44 #[.int .u8 (x : Int), .int .i64 4] (.int .u8 (rl8 x 4 : Nat)) := by
  intro W
  have h : bits .or .u8 ((x : Int) * 16 % 256) ((x : Int) / 16) = ((rl8 x 4 : Nat) : Int) := by have := rl8_int x 4 16 16 hx rfl rfl; rw [IntKind.wrap_u8'] at this; exact this
  have b : bits .and .u64 4 7 = 4 := by decide
  generalize rl8 x 4 = q at *
  go_enter Tryz.func44, Tryz.ntmps44
  go_wp2
  go_ret
  exact ⟨rfl, rfl⟩
theorem rot64_0 (x : Nat) (hx : x < 2 ^ 64) : Same 106 #[.int .u64 (x : Int), .int .i64 0] (.int .u64 (rl64 x 0 : Nat)) := by
  intro W
  have h : bits .or .u64 (x : Int) ((x : Int) / 18446744073709551616) = ((rl64 x 0 : Nat) : Int) := by
    rw [show (x : Int) / 18446744073709551616 = 0 by omega]
    rw [show rl64 x 0 = x by unfold rl64; rw [Nat.pow_zero, Nat.mul_one, Nat.mod_eq_of_lt hx, Nat.div_eq_of_lt hx, Nat.or_zero]]
    have := u64_or_nat x 0 hx (by decide)
    rw [Nat.or_zero] at this
    exact this
  have hw : IntKind.u64.wrap (x : Int) = (x : Int) := by rw [IntKind.wrap_u64]; omega
  have b : bits .and .u64 0 63 = 0 := by decide
  generalize rl64 x 0 = q at *
  go_enter Tryz.func106, Tryz.ntmps106
  go_wp2
  go_ret
  exact ⟨rfl, rfl⟩
theorem rot64_1 (x : Nat) (hx : x < 2 ^ 64) : Same 106 #[.int .u64 (x : Int), .int .i64 8] (.int .u64 (rl64 x 8 : Nat)) := by
  intro W
  have h : bits .or .u64 (IntKind.u64.wrap ((x : Int) * 256)) ((x : Int) / 72057594037927936) = ((rl64 x 8 : Nat) : Int) := rl64_int x 8 256 72057594037927936 hx rfl rfl
  have b : bits .and .u64 8 63 = 8 := by decide
  generalize rl64 x 8 = q at *
  go_enter Tryz.func106, Tryz.ntmps106
  go_wp2
  go_ret
  exact ⟨rfl, rfl⟩
theorem rot64_2 (x : Nat) (hx : x < 2 ^ 64) : Same 106 #[.int .u64 (x : Int), .int .i64 16] (.int .u64 (rl64 x 16 : Nat)) := by
  intro W
  have h : bits .or .u64 (IntKind.u64.wrap ((x : Int) * 65536)) ((x : Int) / 281474976710656) = ((rl64 x 16 : Nat) : Int) := rl64_int x 16 65536 281474976710656 hx rfl rfl
  have b : bits .and .u64 16 63 = 16 := by decide
  generalize rl64 x 16 = q at *
  go_enter Tryz.func106, Tryz.ntmps106
  go_wp2
  go_ret
  exact ⟨rfl, rfl⟩
theorem rot64_3 (x : Nat) (hx : x < 2 ^ 64) : Same 106 #[.int .u64 (x : Int), .int .i64 24] (.int .u64 (rl64 x 24 : Nat)) := by
  intro W
  have h : bits .or .u64 (IntKind.u64.wrap ((x : Int) * 16777216)) ((x : Int) / 1099511627776) = ((rl64 x 24 : Nat) : Int) := rl64_int x 24 16777216 1099511627776 hx rfl rfl
  have b : bits .and .u64 24 63 = 24 := by decide
  generalize rl64 x 24 = q at *
  go_enter Tryz.func106, Tryz.ntmps106
  go_wp2
  go_ret
  exact ⟨rfl, rfl⟩
theorem rot64_4 (x : Nat) (hx : x < 2 ^ 64) : Same 106 #[.int .u64 (x : Int), .int .i64 32] (.int .u64 (rl64 x 32 : Nat)) := by
  intro W
  have h : bits .or .u64 (IntKind.u64.wrap ((x : Int) * 4294967296)) ((x : Int) / 4294967296) = ((rl64 x 32 : Nat) : Int) := rl64_int x 32 4294967296 4294967296 hx rfl rfl
  have b : bits .and .u64 32 63 = 32 := by decide
  generalize rl64 x 32 = q at *
  go_enter Tryz.func106, Tryz.ntmps106
  go_wp2
  go_ret
  exact ⟨rfl, rfl⟩
theorem rot64_5 (x : Nat) (hx : x < 2 ^ 64) : Same 106 #[.int .u64 (x : Int), .int .i64 40] (.int .u64 (rl64 x 40 : Nat)) := by
  intro W
  have h : bits .or .u64 (IntKind.u64.wrap ((x : Int) * 1099511627776)) ((x : Int) / 16777216) = ((rl64 x 40 : Nat) : Int) := rl64_int x 40 1099511627776 16777216 hx rfl rfl
  have b : bits .and .u64 40 63 = 40 := by decide
  generalize rl64 x 40 = q at *
  go_enter Tryz.func106, Tryz.ntmps106
  go_wp2
  go_ret
  exact ⟨rfl, rfl⟩
theorem rot64_6 (x : Nat) (hx : x < 2 ^ 64) : Same 106 #[.int .u64 (x : Int), .int .i64 48] (.int .u64 (rl64 x 48 : Nat)) := by
  intro W
  have h : bits .or .u64 (IntKind.u64.wrap ((x : Int) * 281474976710656)) ((x : Int) / 65536) = ((rl64 x 48 : Nat) : Int) := rl64_int x 48 281474976710656 65536 hx rfl rfl
  have b : bits .and .u64 48 63 = 48 := by decide
  generalize rl64 x 48 = q at *
  go_enter Tryz.func106, Tryz.ntmps106
  go_wp2
  go_ret
  exact ⟨rfl, rfl⟩
theorem rot64_7 (x : Nat) (hx : x < 2 ^ 64) : Same 106 #[.int .u64 (x : Int), .int .i64 56] (.int .u64 (rl64 x 56 : Nat)) := by
  intro W
  have h : bits .or .u64 (IntKind.u64.wrap ((x : Int) * 72057594037927936)) ((x : Int) / 256) = ((rl64 x 56 : Nat) : Int) := rl64_int x 56 72057594037927936 256 hx rfl rfl
  have b : bits .and .u64 56 63 = 56 := by decide
  generalize rl64 x 56 = q at *
  go_enter Tryz.func106, Tryz.ntmps106
  go_wp2
  go_ret
  exact ⟨rfl, rfl⟩
theorem pl_any (c r : Nat) (hc : c < 16) (hr : r < 8) : Same 152 #[.int .i64 (c : Int), .int .i64 (r : Int)] (.int .i64 (((8 * c + r) % 64 : Nat) : Int)) := by
  intro W
  have h : bits .and .i64 (8 * (c : Int) + (r : Int)) 63 = (((8 * c + r) % 64 : Nat) : Int) := by
    have all : ∀ j : Fin 136, bits .and .i64 (j.val : Int) 63 = ((j.val % 64 : Nat) : Int) := by decide +kernel
    have := all ⟨8 * c + r, by omega⟩
    simpa using this
  generalize (8 * c + r) % 64 = q at *
  go_enter Tryz.func152, Tryz.ntmps152
  go_wp2
  go_ret
  exact ⟨rfl, rfl⟩
theorem only_0 (b : Nat) (hb : b < 256) : Same 46 #[.int .i64 0, .int .u8 (b : Int)] (.int .u64 ((b * 1 : Nat) : Int)) := by
  intro W

  have h0 : IntKind.u64.wrap (b : Int) = (b : Int) := by rw [IntKind.wrap_u64]; omega
  rw [Nat.mul_one]
  go_enter Tryz.func46, Tryz.ntmps46
  go_wp2
  go_ret
  exact ⟨rfl, rfl⟩
theorem at_0 (c : Nat) : Same 48 #[.int .u64 (c : Int), .int .i64 0] (.int .u8 ((c / 1 % 256 : Nat) : Int)) := by
  intro W
  have h : IntKind.u8.wrap ((c : Int) / 1) = ((c / 1 % 256 : Nat) : Int) := by rw [IntKind.wrap_u8', Int.natCast_emod, Int.natCast_ediv]; rfl
  have h0 : IntKind.u8.wrap (c : Int) = ((c / 1 % 256 : Nat) : Int) := by rw [IntKind.wrap_u8', Int.natCast_emod, Nat.div_one]; rfl
  generalize c / 1 % 256 = q at *
  go_enter Tryz.func48, Tryz.ntmps48
  go_wp2
  go_ret
  exact ⟨rfl, rfl⟩
theorem only_1 (b : Nat) (hb : b < 256) : Same 46 #[.int .i64 1, .int .u8 (b : Int)] (.int .u64 ((b * 256 : Nat) : Int)) := by
  intro W
  have h : IntKind.u64.wrap ((b : Int) * 256) = ((b * 256 : Nat) : Int) := by rw [IntKind.wrap_u64]; omega
  generalize b * 256 = q at *
  go_enter Tryz.func46, Tryz.ntmps46
  go_wp2
  go_ret
  exact ⟨rfl, rfl⟩
theorem at_1 (c : Nat) : Same 48 #[.int .u64 (c : Int), .int .i64 1] (.int .u8 ((c / 256 % 256 : Nat) : Int)) := by
  intro W
  have h : IntKind.u8.wrap ((c : Int) / 256) = ((c / 256 % 256 : Nat) : Int) := by rw [IntKind.wrap_u8', Int.natCast_emod, Int.natCast_ediv]; rfl
  generalize c / 256 % 256 = q at *
  go_enter Tryz.func48, Tryz.ntmps48
  go_wp2
  go_ret
  exact ⟨rfl, rfl⟩
theorem only_2 (b : Nat) (hb : b < 256) : Same 46 #[.int .i64 2, .int .u8 (b : Int)] (.int .u64 ((b * 65536 : Nat) : Int)) := by
  intro W
  have h : IntKind.u64.wrap ((b : Int) * 65536) = ((b * 65536 : Nat) : Int) := by rw [IntKind.wrap_u64]; omega
  generalize b * 65536 = q at *
  go_enter Tryz.func46, Tryz.ntmps46
  go_wp2
  go_ret
  exact ⟨rfl, rfl⟩
theorem at_2 (c : Nat) : Same 48 #[.int .u64 (c : Int), .int .i64 2] (.int .u8 ((c / 65536 % 256 : Nat) : Int)) := by
  intro W
  have h : IntKind.u8.wrap ((c : Int) / 65536) = ((c / 65536 % 256 : Nat) : Int) := by rw [IntKind.wrap_u8', Int.natCast_emod, Int.natCast_ediv]; rfl
  generalize c / 65536 % 256 = q at *
  go_enter Tryz.func48, Tryz.ntmps48
  go_wp2
  go_ret
  exact ⟨rfl, rfl⟩
theorem only_3 (b : Nat) (hb : b < 256) : Same 46 #[.int .i64 3, .int .u8 (b : Int)] (.int .u64 ((b * 16777216 : Nat) : Int)) := by
  intro W
  have h : IntKind.u64.wrap ((b : Int) * 16777216) = ((b * 16777216 : Nat) : Int) := by rw [IntKind.wrap_u64]; omega
  generalize b * 16777216 = q at *
  go_enter Tryz.func46, Tryz.ntmps46
  go_wp2
  go_ret
  exact ⟨rfl, rfl⟩
theorem at_3 (c : Nat) : Same 48 #[.int .u64 (c : Int), .int .i64 3] (.int .u8 ((c / 16777216 % 256 : Nat) : Int)) := by
  intro W
  have h : IntKind.u8.wrap ((c : Int) / 16777216) = ((c / 16777216 % 256 : Nat) : Int) := by rw [IntKind.wrap_u8', Int.natCast_emod, Int.natCast_ediv]; rfl
  generalize c / 16777216 % 256 = q at *
  go_enter Tryz.func48, Tryz.ntmps48
  go_wp2
  go_ret
  exact ⟨rfl, rfl⟩
theorem only_4 (b : Nat) (hb : b < 256) : Same 46 #[.int .i64 4, .int .u8 (b : Int)] (.int .u64 ((b * 4294967296 : Nat) : Int)) := by
  intro W
  have h : IntKind.u64.wrap ((b : Int) * 4294967296) = ((b * 4294967296 : Nat) : Int) := by rw [IntKind.wrap_u64]; omega
  generalize b * 4294967296 = q at *
  go_enter Tryz.func46, Tryz.ntmps46
  go_wp2
  go_ret
  exact ⟨rfl, rfl⟩
theorem at_4 (c : Nat) : Same 48 #[.int .u64 (c : Int), .int .i64 4] (.int .u8 ((c / 4294967296 % 256 : Nat) : Int)) := by
  intro W
  have h : IntKind.u8.wrap ((c : Int) / 4294967296) = ((c / 4294967296 % 256 : Nat) : Int) := by rw [IntKind.wrap_u8', Int.natCast_emod, Int.natCast_ediv]; rfl
  generalize c / 4294967296 % 256 = q at *
  go_enter Tryz.func48, Tryz.ntmps48
  go_wp2
  go_ret
  exact ⟨rfl, rfl⟩
theorem only_5 (b : Nat) (hb : b < 256) : Same 46 #[.int .i64 5, .int .u8 (b : Int)] (.int .u64 ((b * 1099511627776 : Nat) : Int)) := by
  intro W
  have h : IntKind.u64.wrap ((b : Int) * 1099511627776) = ((b * 1099511627776 : Nat) : Int) := by rw [IntKind.wrap_u64]; omega
  generalize b * 1099511627776 = q at *
  go_enter Tryz.func46, Tryz.ntmps46
  go_wp2
  go_ret
  exact ⟨rfl, rfl⟩
theorem at_5 (c : Nat) : Same 48 #[.int .u64 (c : Int), .int .i64 5] (.int .u8 ((c / 1099511627776 % 256 : Nat) : Int)) := by
  intro W
  have h : IntKind.u8.wrap ((c : Int) / 1099511627776) = ((c / 1099511627776 % 256 : Nat) : Int) := by rw [IntKind.wrap_u8', Int.natCast_emod, Int.natCast_ediv]; rfl
  generalize c / 1099511627776 % 256 = q at *
  go_enter Tryz.func48, Tryz.ntmps48
  go_wp2
  go_ret
  exact ⟨rfl, rfl⟩
theorem only_6 (b : Nat) (hb : b < 256) : Same 46 #[.int .i64 6, .int .u8 (b : Int)] (.int .u64 ((b * 281474976710656 : Nat) : Int)) := by
  intro W
  have h : IntKind.u64.wrap ((b : Int) * 281474976710656) = ((b * 281474976710656 : Nat) : Int) := by rw [IntKind.wrap_u64]; omega
  generalize b * 281474976710656 = q at *
  go_enter Tryz.func46, Tryz.ntmps46
  go_wp2
  go_ret
  exact ⟨rfl, rfl⟩
theorem at_6 (c : Nat) : Same 48 #[.int .u64 (c : Int), .int .i64 6] (.int .u8 ((c / 281474976710656 % 256 : Nat) : Int)) := by
  intro W
  have h : IntKind.u8.wrap ((c : Int) / 281474976710656) = ((c / 281474976710656 % 256 : Nat) : Int) := by rw [IntKind.wrap_u8', Int.natCast_emod, Int.natCast_ediv]; rfl
  generalize c / 281474976710656 % 256 = q at *
  go_enter Tryz.func48, Tryz.ntmps48
  go_wp2
  go_ret
  exact ⟨rfl, rfl⟩
theorem only_7 (b : Nat) (hb : b < 256) : Same 46 #[.int .i64 7, .int .u8 (b : Int)] (.int .u64 ((b * 72057594037927936 : Nat) : Int)) := by
  intro W
  have h : IntKind.u64.wrap ((b : Int) * 72057594037927936) = ((b * 72057594037927936 : Nat) : Int) := by rw [IntKind.wrap_u64]; omega
  generalize b * 72057594037927936 = q at *
  go_enter Tryz.func46, Tryz.ntmps46
  go_wp2
  go_ret
  exact ⟨rfl, rfl⟩
theorem at_7 (c : Nat) : Same 48 #[.int .u64 (c : Int), .int .i64 7] (.int .u8 ((c / 72057594037927936 % 256 : Nat) : Int)) := by
  intro W
  have h : IntKind.u8.wrap ((c : Int) / 72057594037927936) = ((c / 72057594037927936 % 256 : Nat) : Int) := by rw [IntKind.wrap_u8', Int.natCast_emod, Int.natCast_ediv]; rfl
  generalize c / 72057594037927936 % 256 = q at *
  go_enter Tryz.func48, Tryz.ntmps48
  go_wp2
  go_ret
  exact ⟨rfl, rfl⟩
theorem factors_any (W : World) : Calls Tryz.prog 22 #[] W fun e w' => e = .returned (.agg #[.int .i64 2, .int .i64 2, .int .i64 3, .int .i64 4, .int .i64 5, .int .i64 3, .int .i64 5, .int .i64 7]) ∧ Below W.heap.size W w' := by
  go_enter Tryz.func22, Tryz.ntmps22
  go_wp2
  refine bodyPost_ret (v := .agg #[.int .i64 2, .int .i64 2, .int .i64 3, .int .i64 4, .int .i64 5, .int .i64 3, .int .i64 5, .int .i64 7]) (by simp [results, Tryz.results22, go_sem]) rfl ⟨rfl, ?_⟩
  go_grown


theorem lt8 {r : Nat} (h : r < 8) : r = 0 ∨ r = 1 ∨ r = 2 ∨ r = 3 ∨ r = 4 ∨ r = 5 ∨ r = 6 ∨ r = 7 := by omega
theorem at_any (c r : Nat) (hr : r < 8) : Same 48 #[.int .u64 (c : Int), .int .i64 (r : Int)] (.int .u8 ((c / 2 ^ (8 * r) % 256 : Nat) : Int)) := by
  rcases lt8 hr with rfl | rfl | rfl | rfl | rfl | rfl | rfl | rfl
  · exact at_0 c
  · exact at_1 c
  · exact at_2 c
  · exact at_3 c
  · exact at_4 c
  · exact at_5 c
  · exact at_6 c
  · exact at_7 c
theorem only_any (b r : Nat) (hr : r < 8) (hb : b < 256) : Same 46 #[.int .i64 (r : Int), .int .u8 (b : Int)] (.int .u64 ((b * 2 ^ (8 * r) : Nat) : Int)) := by
  rcases lt8 hr with rfl | rfl | rfl | rfl | rfl | rfl | rfl | rfl
  · exact only_0 b hb
  · exact only_1 b hb
  · exact only_2 b hb
  · exact only_3 b hb
  · exact only_4 b hb
  · exact only_5 b hb
  · exact only_6 b hb
  · exact only_7 b hb
theorem rot64_any (x r : Nat) (hr : r < 8) (hx : x < 2 ^ 64) : Same 106 #[.int .u64 (x : Int), .int .i64 (8 * (r : Int))] (.int .u64 ((rl64 x (8 * r) : Nat) : Int)) := by
  rcases lt8 hr with rfl | rfl | rfl | rfl | rfl | rfl | rfl | rfl
  · exact rot64_0 x hx
  · exact rot64_1 x hx
  · exact rot64_2 x hx
  · exact rot64_3 x hx
  · exact rot64_4 x hx
  · exact rot64_5 x hx
  · exact rot64_6 x hx
  · exact rot64_7 x hx
/-- The cells of 256 words that lie at a place. -/
def Cols (w : World) (g o : Nat) (f : Nat → Nat) : Prop := ∀ x, x < 256 → w.cell? ⟨g, o + x, none⟩ = some (.int .u64 (f x : Nat))
theorem alone_any (g o r b x : Nat) (w : World) (hr : r < 8) (hb : b < 256) (hx : x < 2 ^ 64) (hc : w.cell? ⟨g, o + b, none⟩ = some (.int .u64 (x : Nat))) :
    Calls Tryz.prog 72 #[.pointer (some ⟨g, o, none⟩), .int .i64 (r : Int), .int .u8 (b : Int)] w fun e w' => e = .returned (.int .u64 ((rl64 x (8 * r) : Nat) : Int)) ∧ w' = w := by
  have H : Hid (Same 106 #[.int .u64 (x : Int), .int .i64 (8 * (r : Int))] (.int .u64 ((rl64 x (8 * r) : Nat) : Int))) := rot64_any x r hr hx
  generalize rl64 x (8 * r) = q at *
  go_enter Tryz.func72, Tryz.ntmps72
  go_wp2_with (go_at_call 106; refine (H.out.go _).mono ?_; rintro e w1 ⟨rfl, rfl⟩)
  go_ret
  exact ⟨rfl, rfl⟩
/-- What a column becomes, of its first j rows. -/
def whp (f : Nat → Nat) (c : Nat) : Nat → Nat
  | 0 => 0
  | j + 1 => whp f c j ^^^ rl64 (f (c / 2 ^ (8 * j) % 256)) (8 * j)
theorem whp_lt (f : Nat → Nat) (hf : ∀ x, f x < 2 ^ 64) (c : Nat) : ∀ j, whp f c j < 2 ^ 64
  | 0 => by unfold whp; decide
  | j + 1 => by
    unfold whp
    exact Nat.xor_lt_two_pow (whp_lt f hf c j) (rl64_lt _ _ (hf _))
set_option maxHeartbeats 800000 in
theorem whole_any (g o c : Nat) (f : Nat → Nat) (hf : ∀ x, f x < 2 ^ 64) (w : World) (hc : Cols w g o f) :
    Calls Tryz.prog 47 #[.pointer (some ⟨g, o, none⟩), .int .u64 (c : Int)] w fun e w' => e = .returned (.int .u64 ((whp f c 8 : Nat) : Int)) ∧ w' = w := by
  have HC : Hid (Cols w g o f) := hc
  have HF : Hid (∀ x, f x < 2 ^ 64) := hf
  clear hc hf
  go_enter Tryz.func47, Tryz.ntmps47
  go_wp2
  go_loopw [5, 7] (fun v u wr => ∃ j : Nat, j ≤ 8 ∧ v = .int .u64 ((whp f c j : Nat) : Int) ∧ u = .int .i64 j ∧ w = wr) (fun _ u _ => 8 - (intOf u).toNat)
  case atStart => exact ⟨0, by omega, rfl, rfl, rfl⟩
  case round =>
    obtain ⟨j, hj, rfl, rfl, rfl⟩ := hrel
    by_cases hlt : j < 8
    · have HA : Hid (Same 48 #[.int .u64 (c : Int), .int .i64 (j : Int)] (.int .u8 ((c / 2 ^ (8 * j) % 256 : Nat) : Int))) := at_any c j hlt
      have hb : c / 2 ^ (8 * j) % 256 < 256 := Nat.mod_lt _ (by decide)
      have HL := alone_any g o j (c / 2 ^ (8 * j) % 256) (f (c / 2 ^ (8 * j) % 256)) w hlt hb (HF.out _) (HC.out _ hb)
      have hx : bits .xor .u64 ((whp f c j : Nat) : Int) ((rl64 (f (c / 2 ^ (8 * j) % 256)) (8 * j) : Nat) : Int) = ((whp f c (j + 1) : Nat) : Int) := u64_xor_nat _ _ (whp_lt f HF.out c j) (rl64_lt _ _ (HF.out _))
      generalize rl64 (f (c / 2 ^ (8 * j) % 256)) (8 * j) = q at *
      generalize c / 2 ^ (8 * j) % 256 = b at *
      generalize hz : whp f c (j + 1) = z at *
      generalize whp f c j = y at *
      have H2 : Hid (Calls Tryz.prog 72 #[.pointer (some ⟨g, o, none⟩), .int .i64 (j : Int), .int .u8 (b : Int)] w fun e w' => e = .returned (.int .u64 (q : Int)) ∧ w' = w) := HL
      clear HL
      have HZ : Hid (whp f c (j + 1) = z) := hz
      clear hz
      go_wp2_with (first | (go_at_call 48; refine (HA.out.go _).mono ?_; rintro e w1 ⟨rfl, rfl⟩) | (go_at_call 72; refine H2.out.mono ?_; rintro e w1 ⟨rfl, rfl⟩))
      exact ⟨⟨j + 1, hlt, by rw [HZ.out], by simp, trivial⟩, by simp [intOf]; omega⟩
    · obtain rfl : j = 8 := by omega
      go_wp2
      go_ret
      exact ⟨rfl, rfl⟩


/-- The factors, by their number. -/
def fac : Nat → Nat
  | 0 => 2 | 1 => 2 | 2 => 3 | 3 => 4 | 4 => 5 | 5 => 3 | 6 => 5 | _ => 7
/-- What a byte in the row 0 becomes, by its first j factors. -/
def mxp (t : Nat → Nat → Nat) (b : Nat) : Nat → Nat
  | 0 => 0
  | j + 1 => mxp t b j ^^^ (t (fac j) b * 2 ^ (8 * ((8 - j) % 8)))
theorem byte_at {x r : Nat} (hx : x < 256) (hr : r < 8) : x * 2 ^ (8 * r) < 2 ^ 64 := by
  have h1 : x * 2 ^ (8 * r) < 2 ^ 8 * 2 ^ (8 * r) := Nat.mul_lt_mul_of_pos_right hx (Nat.two_pow_pos _)
  rw [← Nat.pow_add] at h1
  exact Nat.lt_of_lt_of_le h1 (Nat.pow_le_pow_right (by decide) (by omega))
theorem mxp_lt (t : Nat → Nat → Nat) (ht : ∀ k x, t k x < 256) (b : Nat) : ∀ j, mxp t b j < 2 ^ 64
  | 0 => by unfold mxp; decide
  | j + 1 => by
    unfold mxp
    exact Nat.xor_lt_two_pow (mxp_lt t ht b j) (byte_at (ht _ _) (Nat.mod_lt _ (by decide)))
set_option maxHeartbeats 1600000 in
set_option maxRecDepth 100000 in
theorem mixed_any (g b : Nat) (t : Nat → Nat → Nat) (ht : ∀ k x, t k x < 256) (hb : b < 256) (w : World) (hg : g < w.heap.size) (hc : ∀ k, k < 8 → w.cell? ⟨g, 512 + 256 * k + b, none⟩ = some (.int .u8 (t k b : Nat))) :
    Calls Tryz.prog 24 #[.pointer (some ⟨g, 0, none⟩), .int .u8 (b : Int)] w fun e w' => e = .returned (.int .u64 ((mxp t b 8 : Nat) : Int)) ∧ Below w.heap.size w w' := by
  have HC : Hid (∀ k, k < 8 → w.cell? ⟨g, 512 + 256 * k + b, none⟩ = some (.int .u8 (t k b : Nat))) := hc
  have HT : Hid (∀ k x, t k x < 256) := ht
  clear hc ht
  go_enter Tryz.func24, Tryz.ntmps24
  go_wp2_with (go_at_call 22; refine (factors_any _).mono ?_; rintro e w1 ⟨rfl, hb1⟩)
  have HB : Hid (Below w.heap.size w w1) := hb1
  replace HC : Hid (∀ k, k < 8 → w1.cell? ⟨g, 512 + 256 * k + b, none⟩ = some (.int .u8 (t k b : Nat))) := fun k hk => by rw [hb1.cell (p := ⟨g, 512 + 256 * k + b, none⟩) hg]; exact HC.out k hk
  clear hb1 hg
  go_loopw [5, 9] (fun v u wr => ∃ j : Nat, j ≤ 8 ∧ v = .int .u64 ((mxp t b j : Nat) : Int) ∧ u = .int .i64 j ∧ w1 = wr) (fun _ u _ => 8 - (intOf u).toNat)
  case atStart => exact ⟨0, by omega, rfl, rfl, rfl⟩
  case round =>
    obtain ⟨j, hj, rfl, rfl, rfl⟩ := hrel
    by_cases hlt : j < 8
    · rcases lt8 hlt with rfl | rfl | rfl | rfl | rfl | rfl | rfl | rfl
      · have hc := HC.out 2 (by decide)
        have HO : Hid (Same 46 #[.int .i64 0, .int .u8 ((t 2 b : Nat) : Int)] (.int .u64 ((t 2 b * 1 : Nat) : Int))) := only_0 _ (HT.out 2 b)
        have hx : bits .xor .u64 ((mxp t b 0 : Nat) : Int) ((t 2 b * 1 : Nat) : Int) = ((mxp t b 1 : Nat) : Int) := u64_xor_nat _ _ (mxp_lt t HT.out b 0) (byte_at (r := 0) (HT.out 2 b) (by decide))
        have HZ : Hid (mxp t b 1 = mxp t b 1) := rfl
        generalize t 2 b * 1 = q at *
        generalize t 2 b = tb at *
        generalize hz : mxp t b 1 = z at *
        replace HZ : Hid (mxp t b 1 = z) := hz
        clear hz HC HT hlt hj
        rw [show ((0 : Nat) : Int) = 0 from rfl]
        generalize mxp t b 0 = y at *
        have i0 : ∀ w, (Instr.index 68 (.agg #[.int .i64 2, .int .i64 2, .int .i64 3, .int .i64 4, .int .i64 5, .int .i64 3, .int .i64 5, .int .i64 7]) (.int .i64 0)).run Tryz.prog w = .ok (.int .i64 2) w := fun _ => by kernel_rfl
        go_wp2_with (go_at_call 46; refine (HO.out.go _).mono ?_; rintro e w2 ⟨rfl, rfl⟩)
        exact ⟨⟨1, by omega, by rw [HZ.out], by simp, trivial⟩, by simp [intOf]⟩
      · have hc := HC.out 2 (by decide)
        have HO : Hid (Same 46 #[.int .i64 7, .int .u8 ((t 2 b : Nat) : Int)] (.int .u64 ((t 2 b * 72057594037927936 : Nat) : Int))) := only_7 _ (HT.out 2 b)
        have hx : bits .xor .u64 ((mxp t b 1 : Nat) : Int) ((t 2 b * 72057594037927936 : Nat) : Int) = ((mxp t b 2 : Nat) : Int) := u64_xor_nat _ _ (mxp_lt t HT.out b 1) (byte_at (r := 7) (HT.out 2 b) (by decide))
        have HZ : Hid (mxp t b 2 = mxp t b 2) := rfl
        generalize t 2 b * 72057594037927936 = q at *
        generalize t 2 b = tb at *
        generalize hz : mxp t b 2 = z at *
        replace HZ : Hid (mxp t b 2 = z) := hz
        clear hz HC HT hlt hj
        rw [show ((1 : Nat) : Int) = 1 from rfl]
        generalize mxp t b 1 = y at *
        have i0 : ∀ w, (Instr.index 68 (.agg #[.int .i64 2, .int .i64 2, .int .i64 3, .int .i64 4, .int .i64 5, .int .i64 3, .int .i64 5, .int .i64 7]) (.int .i64 1)).run Tryz.prog w = .ok (.int .i64 2) w := fun _ => by kernel_rfl
        go_wp2_with (go_at_call 46; refine (HO.out.go _).mono ?_; rintro e w2 ⟨rfl, rfl⟩)
        exact ⟨⟨2, by omega, by rw [HZ.out], by simp, trivial⟩, by simp [intOf]⟩
      · have hc := HC.out 3 (by decide)
        have HO : Hid (Same 46 #[.int .i64 6, .int .u8 ((t 3 b : Nat) : Int)] (.int .u64 ((t 3 b * 281474976710656 : Nat) : Int))) := only_6 _ (HT.out 3 b)
        have hx : bits .xor .u64 ((mxp t b 2 : Nat) : Int) ((t 3 b * 281474976710656 : Nat) : Int) = ((mxp t b 3 : Nat) : Int) := u64_xor_nat _ _ (mxp_lt t HT.out b 2) (byte_at (r := 6) (HT.out 3 b) (by decide))
        have HZ : Hid (mxp t b 3 = mxp t b 3) := rfl
        generalize t 3 b * 281474976710656 = q at *
        generalize t 3 b = tb at *
        generalize hz : mxp t b 3 = z at *
        replace HZ : Hid (mxp t b 3 = z) := hz
        clear hz HC HT hlt hj
        rw [show ((2 : Nat) : Int) = 2 from rfl]
        generalize mxp t b 2 = y at *
        have i0 : ∀ w, (Instr.index 68 (.agg #[.int .i64 2, .int .i64 2, .int .i64 3, .int .i64 4, .int .i64 5, .int .i64 3, .int .i64 5, .int .i64 7]) (.int .i64 2)).run Tryz.prog w = .ok (.int .i64 3) w := fun _ => by kernel_rfl
        go_wp2_with (go_at_call 46; refine (HO.out.go _).mono ?_; rintro e w2 ⟨rfl, rfl⟩)
        exact ⟨⟨3, by omega, by rw [HZ.out], by simp, trivial⟩, by simp [intOf]⟩
      · have hc := HC.out 4 (by decide)
        have HO : Hid (Same 46 #[.int .i64 5, .int .u8 ((t 4 b : Nat) : Int)] (.int .u64 ((t 4 b * 1099511627776 : Nat) : Int))) := only_5 _ (HT.out 4 b)
        have hx : bits .xor .u64 ((mxp t b 3 : Nat) : Int) ((t 4 b * 1099511627776 : Nat) : Int) = ((mxp t b 4 : Nat) : Int) := u64_xor_nat _ _ (mxp_lt t HT.out b 3) (byte_at (r := 5) (HT.out 4 b) (by decide))
        have HZ : Hid (mxp t b 4 = mxp t b 4) := rfl
        generalize t 4 b * 1099511627776 = q at *
        generalize t 4 b = tb at *
        generalize hz : mxp t b 4 = z at *
        replace HZ : Hid (mxp t b 4 = z) := hz
        clear hz HC HT hlt hj
        rw [show ((3 : Nat) : Int) = 3 from rfl]
        generalize mxp t b 3 = y at *
        have i0 : ∀ w, (Instr.index 68 (.agg #[.int .i64 2, .int .i64 2, .int .i64 3, .int .i64 4, .int .i64 5, .int .i64 3, .int .i64 5, .int .i64 7]) (.int .i64 3)).run Tryz.prog w = .ok (.int .i64 4) w := fun _ => by kernel_rfl
        go_wp2_with (go_at_call 46; refine (HO.out.go _).mono ?_; rintro e w2 ⟨rfl, rfl⟩)
        exact ⟨⟨4, by omega, by rw [HZ.out], by simp, trivial⟩, by simp [intOf]⟩
      · have hc := HC.out 5 (by decide)
        have HO : Hid (Same 46 #[.int .i64 4, .int .u8 ((t 5 b : Nat) : Int)] (.int .u64 ((t 5 b * 4294967296 : Nat) : Int))) := only_4 _ (HT.out 5 b)
        have hx : bits .xor .u64 ((mxp t b 4 : Nat) : Int) ((t 5 b * 4294967296 : Nat) : Int) = ((mxp t b 5 : Nat) : Int) := u64_xor_nat _ _ (mxp_lt t HT.out b 4) (byte_at (r := 4) (HT.out 5 b) (by decide))
        have HZ : Hid (mxp t b 5 = mxp t b 5) := rfl
        generalize t 5 b * 4294967296 = q at *
        generalize t 5 b = tb at *
        generalize hz : mxp t b 5 = z at *
        replace HZ : Hid (mxp t b 5 = z) := hz
        clear hz HC HT hlt hj
        rw [show ((4 : Nat) : Int) = 4 from rfl]
        generalize mxp t b 4 = y at *
        have i0 : ∀ w, (Instr.index 68 (.agg #[.int .i64 2, .int .i64 2, .int .i64 3, .int .i64 4, .int .i64 5, .int .i64 3, .int .i64 5, .int .i64 7]) (.int .i64 4)).run Tryz.prog w = .ok (.int .i64 5) w := fun _ => by kernel_rfl
        go_wp2_with (go_at_call 46; refine (HO.out.go _).mono ?_; rintro e w2 ⟨rfl, rfl⟩)
        exact ⟨⟨5, by omega, by rw [HZ.out], by simp, trivial⟩, by simp [intOf]⟩
      · have hc := HC.out 3 (by decide)
        have HO : Hid (Same 46 #[.int .i64 3, .int .u8 ((t 3 b : Nat) : Int)] (.int .u64 ((t 3 b * 16777216 : Nat) : Int))) := only_3 _ (HT.out 3 b)
        have hx : bits .xor .u64 ((mxp t b 5 : Nat) : Int) ((t 3 b * 16777216 : Nat) : Int) = ((mxp t b 6 : Nat) : Int) := u64_xor_nat _ _ (mxp_lt t HT.out b 5) (byte_at (r := 3) (HT.out 3 b) (by decide))
        have HZ : Hid (mxp t b 6 = mxp t b 6) := rfl
        generalize t 3 b * 16777216 = q at *
        generalize t 3 b = tb at *
        generalize hz : mxp t b 6 = z at *
        replace HZ : Hid (mxp t b 6 = z) := hz
        clear hz HC HT hlt hj
        rw [show ((5 : Nat) : Int) = 5 from rfl]
        generalize mxp t b 5 = y at *
        have i0 : ∀ w, (Instr.index 68 (.agg #[.int .i64 2, .int .i64 2, .int .i64 3, .int .i64 4, .int .i64 5, .int .i64 3, .int .i64 5, .int .i64 7]) (.int .i64 5)).run Tryz.prog w = .ok (.int .i64 3) w := fun _ => by kernel_rfl
        go_wp2_with (go_at_call 46; refine (HO.out.go _).mono ?_; rintro e w2 ⟨rfl, rfl⟩)
        exact ⟨⟨6, by omega, by rw [HZ.out], by simp, trivial⟩, by simp [intOf]⟩
      · have hc := HC.out 5 (by decide)
        have HO : Hid (Same 46 #[.int .i64 2, .int .u8 ((t 5 b : Nat) : Int)] (.int .u64 ((t 5 b * 65536 : Nat) : Int))) := only_2 _ (HT.out 5 b)
        have hx : bits .xor .u64 ((mxp t b 6 : Nat) : Int) ((t 5 b * 65536 : Nat) : Int) = ((mxp t b 7 : Nat) : Int) := u64_xor_nat _ _ (mxp_lt t HT.out b 6) (byte_at (r := 2) (HT.out 5 b) (by decide))
        have HZ : Hid (mxp t b 7 = mxp t b 7) := rfl
        generalize t 5 b * 65536 = q at *
        generalize t 5 b = tb at *
        generalize hz : mxp t b 7 = z at *
        replace HZ : Hid (mxp t b 7 = z) := hz
        clear hz HC HT hlt hj
        rw [show ((6 : Nat) : Int) = 6 from rfl]
        generalize mxp t b 6 = y at *
        have i0 : ∀ w, (Instr.index 68 (.agg #[.int .i64 2, .int .i64 2, .int .i64 3, .int .i64 4, .int .i64 5, .int .i64 3, .int .i64 5, .int .i64 7]) (.int .i64 6)).run Tryz.prog w = .ok (.int .i64 5) w := fun _ => by kernel_rfl
        go_wp2_with (go_at_call 46; refine (HO.out.go _).mono ?_; rintro e w2 ⟨rfl, rfl⟩)
        exact ⟨⟨7, by omega, by rw [HZ.out], by simp, trivial⟩, by simp [intOf]⟩
      · have hc := HC.out 7 (by decide)
        have HO : Hid (Same 46 #[.int .i64 1, .int .u8 ((t 7 b : Nat) : Int)] (.int .u64 ((t 7 b * 256 : Nat) : Int))) := only_1 _ (HT.out 7 b)
        have hx : bits .xor .u64 ((mxp t b 7 : Nat) : Int) ((t 7 b * 256 : Nat) : Int) = ((mxp t b 8 : Nat) : Int) := u64_xor_nat _ _ (mxp_lt t HT.out b 7) (byte_at (r := 1) (HT.out 7 b) (by decide))
        have HZ : Hid (mxp t b 8 = mxp t b 8) := rfl
        generalize t 7 b * 256 = q at *
        generalize t 7 b = tb at *
        generalize hz : mxp t b 8 = z at *
        replace HZ : Hid (mxp t b 8 = z) := hz
        clear hz HC HT hlt hj
        rw [show ((7 : Nat) : Int) = 7 from rfl]
        generalize mxp t b 7 = y at *
        have i0 : ∀ w, (Instr.index 68 (.agg #[.int .i64 2, .int .i64 2, .int .i64 3, .int .i64 4, .int .i64 5, .int .i64 3, .int .i64 5, .int .i64 7]) (.int .i64 7)).run Tryz.prog w = .ok (.int .i64 7) w := fun _ => by kernel_rfl
        go_wp2_with (go_at_call 46; refine (HO.out.go _).mono ?_; rintro e w2 ⟨rfl, rfl⟩)
        exact ⟨⟨8, by omega, by rw [HZ.out], by simp, trivial⟩, by simp [intOf]⟩
    · obtain rfl : j = 8 := by omega
      go_wp2
      go_ret
      exact ⟨rfl, HB.out⟩
/-- Mixed n times. -/
def whn (f : Nat → Nat) (c : Nat) : Nat → Nat
  | 0 => c
  | n + 1 => whp f (whn f c n) 8
theorem whn_lt (f : Nat → Nat) (hf : ∀ x, f x < 2 ^ 64) (c : Nat) (hc : c < 2 ^ 64) : ∀ n, whn f c n < 2 ^ 64
  | 0 => hc
  | _ + 1 => whp_lt f hf _ 8
/-- The bytes of a column times 3, of its first j rows. -/
def t3p (t : Nat → Nat → Nat) (c : Nat) : Nat → Nat
  | 0 => 0
  | j + 1 => t3p t c j ^^^ (t 3 (c / 2 ^ (8 * j) % 256) * 2 ^ (8 * j))
theorem t3p_lt (t : Nat → Nat → Nat) (ht : ∀ k x, t k x < 256) (c : Nat) : ∀ j, j ≤ 8 → t3p t c j < 2 ^ 64
  | 0, _ => by unfold t3p; decide
  | j + 1, h => by
    unfold t3p
    exact Nat.xor_lt_two_pow (t3p_lt t ht c j (by omega)) (byte_at (ht _ _) (by omega))
set_option maxHeartbeats 1600000 in
set_option maxRecDepth 100000 in
theorem unmixed_any (g b : Nat) (t : Nat → Nat → Nat) (ht : ∀ k x, t k x < 256) (f : Nat → Nat) (hf : ∀ x, f x < 2 ^ 64) (hb : b < 256) (w : World) (hc : ∀ x, x < 256 → w.cell? ⟨g, 1280 + x, none⟩ = some (.int .u8 (t 3 x : Nat))) (hm : Cols w g 2560 f) :
    Calls Tryz.prog 25 #[.pointer (some ⟨g, 0, none⟩), .int .u8 (b : Int)] w fun e w' => e = .returned (.int .u64 ((t3p t (whn f b 7) 8 : Nat) : Int)) ∧ ∃ k, w' = w.drewN k := by
  have HC : Hid (∀ x, x < 256 → w.cell? ⟨g, 1280 + x, none⟩ = some (.int .u8 (t 3 x : Nat))) := hc
  have HM : Hid (Cols w g 2560 f) := hm
  have HT : Hid (∀ k x, t k x < 256) := ht
  have HF : Hid (∀ x, f x < 2 ^ 64) := hf
  have HO : Hid (Same 46 #[.int .i64 0, .int .u8 (b : Int)] (.int .u64 (b : Int))) := by have := only_0 b hb; rwa [Nat.mul_one] at this
  clear hc ht hm hf
  go_enter Tryz.func25, Tryz.ntmps25
  go_wp2_with (go_at_call 46; refine (HO.out.go _).mono ?_; rintro e w2 ⟨rfl, rfl⟩)
  go_loopw [5, 10] (fun v u wr => ∃ j : Nat, j ≤ 7 ∧ v = .int .u64 ((whn f b j : Nat) : Int) ∧ u = .int .i64 j ∧ w2 = wr) (fun _ u _ => 7 - (intOf u).toNat)
  case atStart => exact ⟨0, by omega, rfl, rfl, rfl⟩
  case round =>
    obtain ⟨j, hj, rfl, rfl, rfl⟩ := hrel
    by_cases hlt : j < 7
    · have HW := whole_any g 2560 (whn f b j) f HF.out w2 HM.out
      generalize hz : whp f (whn f b j) 8 = z at *
      have HZ : Hid (whn f b (j + 1) = z) := hz
      clear hz
      generalize whn f b j = y at *
      have H2 : Hid (Calls Tryz.prog 47 #[.pointer (some ⟨g, 2560, none⟩), .int .u64 (y : Int)] w2 fun e w' => e = .returned (.int .u64 (z : Int)) ∧ w' = w2) := HW
      clear HW
      go_wp2_with (go_at_call 47; refine H2.out.mono ?_; rintro e w3 ⟨rfl, rfl⟩)
      exact ⟨⟨j + 1, hlt, by rw [HZ.out], by simp, trivial⟩, by simp [intOf]; omega⟩
    · have HJ : Hid (j = 7) := (by omega : j = 7)
      have HY : Hid (whn f b j = whn f b 7) := by rw [HJ.out]; exact (rfl : whn f b 7 = whn f b 7)
      generalize whn f b j = y at *
      have hlt' : ¬ ((j : Int) < 7) := by omega
      clear hj HM HF HJ
      go_wp2
      go_loopw [6, 18] (fun v u wr => ∃ j : Nat, j ≤ 8 ∧ v = .int .u64 ((t3p t y j : Nat) : Int) ∧ u = .int .i64 j ∧ Hid (∃ k, wr = w2.drewN k)) (fun _ u _ => 8 - (intOf u).toNat)
      case atStart => exact ⟨0, by omega, rfl, rfl, ⟨0, rfl⟩⟩
      case round =>
        obtain ⟨j, hj, rfl, rfl, HW⟩ := hrel
        by_cases hlt : j < 8
        · have HA : Hid (Same 48 #[.int .u64 (y : Int), .int .i64 (j : Int)] (.int .u8 ((y / 2 ^ (8 * j) % 256 : Nat) : Int))) := at_any y j hlt
          have hb1 : y / 2 ^ (8 * j) % 256 < 256 := Nat.mod_lt _ (by decide)
          have hc : wr.cell? ⟨g, 1280 + y / 2 ^ (8 * j) % 256, none⟩ = some (.int .u8 (t 3 (y / 2 ^ (8 * j) % 256) : Nat)) := by obtain ⟨k, hk⟩ := HW.out; rw [hk]; exact HC.out _ hb1
          have HO : Hid (Same 46 #[.int .i64 (j : Int), .int .u8 ((t 3 (y / 2 ^ (8 * j) % 256) : Nat) : Int)] (.int .u64 ((t 3 (y / 2 ^ (8 * j) % 256) * 2 ^ (8 * j) : Nat) : Int))) := only_any _ j hlt (HT.out _ _)
          have hx : bits .xor .u64 ((t3p t y j : Nat) : Int) ((t 3 (y / 2 ^ (8 * j) % 256) * 2 ^ (8 * j) : Nat) : Int) = ((t3p t y (j + 1) : Nat) : Int) := u64_xor_nat _ _ (t3p_lt t HT.out y j hj) (byte_at (HT.out _ _) hlt)
          generalize t 3 (y / 2 ^ (8 * j) % 256) * 2 ^ (8 * j) = q at *
          generalize t 3 (y / 2 ^ (8 * j) % 256) = tb at *
          generalize y / 2 ^ (8 * j) % 256 = b1 at *
          generalize hz : t3p t y (j + 1) = z at *
          have HZ : Hid (t3p t y (j + 1) = z) := hz
          clear hz
          generalize t3p t y j = x at *
          have hi1 : (0 : Int) ≤ (b1 : Int) := by omega
          have hi2 : (b1 : Int) < 256 := by omega
          go_wp2
          go_region_held3 (fun w => w.cell? ⟨g, 1280 + b1, none⟩ = some (.int .u8 (tb : Int))) (go_keep) (first | (go_at_call 48; refine (HA.out.go _).mono ?_; rintro e w' ⟨rfl, rfl⟩) | (go_at_call 46; refine (HO.out.go _).mono ?_; rintro e w' ⟨rfl, rfl⟩))
          go_wp2
          exact ⟨⟨j + 1, hlt, by rw [HZ.out], by simp, by obtain ⟨k, hk⟩ := HW.out; rw [hk]; exact ⟨k + 1, rfl⟩⟩, by simp [intOf]; omega⟩
        · obtain rfl : j = 8 := by omega
          go_wp2
          go_ret
          exact ⟨by rw [← HY.out]; rfl, HW.out⟩
end Go.Proofs.YtopmkooegpaeaaaGreat
