/- Contracts of perm.box and perm.times, over the seat's translation. -/
import Derived.Test.YtbmjceiogfhffaaPmC
import Derived.Test.YtbmjceiogfhffaaTwIn
namespace Go.Proofs.Ytbmjceiogfhffaa
open Go.RowKit

/-- The box of an inverse, by its first j turns. -/
def boxp (x : Nat) : Nat → Nat
  | 0 => x ^^^ 99
  | j + 1 => boxp x j ^^^ rl8 x (j + 1)
theorem boxp_lt (x : Nat) (hx : x < 256) : ∀ j, boxp x j < 256
  | 0 => Nat.xor_lt_two_pow (n := 8) hx (by decide)
  | j + 1 => Nat.xor_lt_two_pow (n := 8) (boxp_lt x hx j) (rl8_lt x _ hx)
/-- A byte's inverse. -/
def binv (b : Nat) : Nat := (invv 3 (0, b)).2 % 256
/-- A byte's box. -/
def bx (b : Nat) : Nat := boxp (binv b) 4
/-- A byte times a number. -/
def tmul (k b : Nat) : Nat := (mulv 3 (0, k) (0, b)).2 % 256
theorem binv_lt (b : Nat) : binv b < 256 := Nat.mod_lt _ (by decide)
theorem bx_lt (b : Nat) : bx b < 256 := boxp_lt _ (binv_lt b) 4
theorem tmul_lt (k b : Nat) : tmul k b < 256 := Nat.mod_lt _ (by decide)
theorem rot8_any (x n : Nat) (hx : x < 256) (hn : n < 4) : Same 45 #[.int .u8 (x : Int), .int .i64 ((n : Int) + 1)] (.int .u8 (rl8 x (n + 1) : Nat)) := by
  have : n = 0 ∨ n = 1 ∨ n = 2 ∨ n = 3 := by omega
  rcases this with rfl | rfl | rfl | rfl
  · exact rot8_1 x hx
  · exact rot8_2 x hx
  · exact rot8_3 x hx
  · exact rot8_4 x hx
set_option maxHeartbeats 800000 in
theorem box_any (b : Nat) (hb : b < 256) : Ret 26 #[.int .u8 (b : Int)] (.int .u8 ((bx b : Nat) : Int)) := by
  intro W
  have HI : Hid (Ret 44 #[.int .i64 3, .agg #[.int .u64 0, .int .u64 (b : Int)]] (.agg #[.int .u64 ((invv 3 (0, b)).1 : Int), .int .u64 ((invv 3 (0, b)).2 : Int)])) := inv_any 3 (0, b) (Nat.two_pow_pos 64) (by show b < 2 ^ 64; omega)
  have hv : ((invv 3 (0, b)).2 : Int) % 256 = ((binv b : Nat) : Int) := by unfold binv; omega
  have HX : Hid (bx b = boxp (binv b) 4) := (rfl : bx b = boxp (binv b) 4)
  have hx := binv_lt b
  generalize bx b = z at *
  generalize binv b = x at *
  generalize (invv 3 (0, b)).1 = v1 at *
  generalize (invv 3 (0, b)).2 = v2 at *
  have h0 : bits .xor .u8 (x : Int) 99 = ((boxp x 0 : Nat) : Int) := u8_xor_nat x 99 hx (by decide)
  go_enter Try.func26, Try.ntmps26
  go_wp2_with (go_at_call 44; refine (HI.out.go _).mono ?_; rintro e w1 ⟨rfl, hb1⟩)
  have HD : Hid (Below W.heap.size W (w1.alloc (Obj.cells #[.int .u64 (v1 : Int), .int .u64 (v2 : Int)] 73))) := hb1.alloc hb1.size _
  rw [hv]
  clear hb1 h0
  go_loopw [4, 15] (fun v u wr => ∃ j : Nat, j ≤ 4 ∧ v = .int .u8 ((boxp x j : Nat) : Int) ∧ u = .int .i64 j ∧ Hid (Below W.heap.size W wr)) (fun _ u _ => 4 - (intOf u).toNat)
  case atStart => exact ⟨0, by omega, rfl, rfl, HD⟩
  case round =>
    obtain ⟨j, hj, rfl, rfl, HB⟩ := hrel
    clear HD
    by_cases hlt : j < 4
    · have HA : Hid (Same 45 #[.int .u8 (x : Int), .int .i64 ((j : Int) + 1)] (.int .u8 (rl8 x (j + 1) : Nat))) := rot8_any x j hx hlt
      have hx2 : bits .xor .u8 ((boxp x j : Nat) : Int) ((rl8 x (j + 1) : Nat) : Int) = ((boxp x (j + 1) : Nat) : Int) := u8_xor_nat _ _ (boxp_lt x hx j) (rl8_lt x _ hx)
      generalize rl8 x (j + 1) = q at *
      generalize hz : boxp x (j + 1) = y at *
      have HZ : Hid (boxp x (j + 1) = y) := hz
      clear hz
      generalize boxp x j = p at *
      go_wp2_with (go_at_call 45; refine (HA.out.go _).mono ?_; rintro e w3 ⟨rfl, rfl⟩)
      exact ⟨⟨j + 1, hlt, by rw [HZ.out], by simp, HB⟩, by simp [intOf]; omega⟩
    · obtain rfl : j = 4 := by omega
      go_wp2
      go_ret
      exact ⟨by rw [HX.out]; rfl, HB.out⟩
theorem times_any (k b : Nat) (hk : k < 8) (hb : b < 256) : Ret 28 #[.int .i64 (k : Int), .int .u8 (b : Int)] (.int .u8 ((tmul k b : Nat) : Int)) := by
  intro W
  have HI : Hid (Ret 46 #[.int .i64 3, .agg #[.int .u64 0, .int .u64 (k : Int)], .agg #[.int .u64 0, .int .u64 (b : Int)]] (.agg #[.int .u64 ((mulv 3 (0, k) (0, b)).1 : Int), .int .u64 ((mulv 3 (0, k) (0, b)).2 : Int)])) := mul_any 3 (0, k) (0, b) (Nat.two_pow_pos 64) (by show k < 2 ^ 64; omega) (Nat.two_pow_pos 64) (by show b < 2 ^ 64; omega)
  have hv : ((mulv 3 (0, k) (0, b)).2 : Int) % 256 = ((tmul k b : Nat) : Int) := by unfold tmul; omega
  have hw : IntKind.u64.wrap (k : Int) = (k : Int) := by rw [IntKind.wrap_u64]; omega
  generalize tmul k b = z at *
  generalize (mulv 3 (0, k) (0, b)).1 = v1 at *
  generalize (mulv 3 (0, k) (0, b)).2 = v2 at *
  go_enter Try.func28, Try.ntmps28
  go_wp2_with (go_at_call 46; refine (HI.out.go _).mono ?_; rintro e w1 ⟨rfl, hb1⟩)
  go_ret
  exact ⟨by rw [← hv]; rfl, hb1.alloc hb1.size _⟩
end Go.Proofs.Ytbmjceiogfhffaa
