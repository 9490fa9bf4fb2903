/- Contracts of perm's mixers over a table that lies in memory, over the seat's translation. -/
import Derived.Test.YtbmjceiogfhffaaPmA
namespace Go.Proofs.Ytbmjceiogfhffaa
open Go.RowKit

theorem lt8 {r : Nat} (h : r < 8) : r = 0 ∨ r = 1 ∨ r = 2 ∨ r = 3 ∨ r = 4 ∨ r = 5 ∨ r = 6 ∨ r = 7 := by omega
theorem at_any (c r : Nat) (hr : r < 8) : Same 49 #[.int .u64 (c : Int), .int .i64 (r : Int)] (.int .u8 ((c / 2 ^ (8 * r) % 256 : Nat) : Int)) := by
  rcases lt8 hr with rfl | rfl | rfl | rfl | rfl | rfl | rfl | rfl
  · exact at_0 c
  · exact at_1 c
  · exact at_2 c
  · exact at_3 c
  · exact at_4 c
  · exact at_5 c
  · exact at_6 c
  · exact at_7 c
theorem only_any (b r : Nat) (hr : r < 8) (hb : b < 256) : Same 47 #[.int .i64 (r : Int), .int .u8 (b : Int)] (.int .u64 ((b * 2 ^ (8 * r) : Nat) : Int)) := by
  rcases lt8 hr with rfl | rfl | rfl | rfl | rfl | rfl | rfl | rfl
  · exact only_0 b hb
  · exact only_1 b hb
  · exact only_2 b hb
  · exact only_3 b hb
  · exact only_4 b hb
  · exact only_5 b hb
  · exact only_6 b hb
  · exact only_7 b hb
theorem rot64_any (x r : Nat) (hr : r < 8) (hx : x < 2 ^ 64) : Same 84 #[.int .u64 (x : Int), .int .i64 (8 * (r : Int))] (.int .u64 ((rl64 x (8 * r) : Nat) : Int)) := by
  rcases lt8 hr with rfl | rfl | rfl | rfl | rfl | rfl | rfl | rfl
  · exact rot64_0 x hx
  · exact rot64_1 x hx
  · exact rot64_2 x hx
  · exact rot64_3 x hx
  · exact rot64_4 x hx
  · exact rot64_5 x hx
  · exact rot64_6 x hx
  · exact rot64_7 x hx
/-- The cells of 256 words that lie at a place. -/
def Cols (w : World) (g o : Nat) (f : Nat → Nat) : Prop := ∀ x, x < 256 → w.cell? ⟨g, o + x, none⟩ = some (.int .u64 (f x : Nat))
theorem alone_any (g o r b x : Nat) (w : World) (hr : r < 8) (hb : b < 256) (hx : x < 2 ^ 64) (hc : w.cell? ⟨g, o + b, none⟩ = some (.int .u64 (x : Nat))) :
    Calls Try.prog 67 #[.pointer (some ⟨g, o, none⟩), .int .i64 (r : Int), .int .u8 (b : Int)] w fun e w' => e = .returned (.int .u64 ((rl64 x (8 * r) : Nat) : Int)) ∧ w' = w := by
  have H : Hid (Same 84 #[.int .u64 (x : Int), .int .i64 (8 * (r : Int))] (.int .u64 ((rl64 x (8 * r) : Nat) : Int))) := rot64_any x r hr hx
  generalize rl64 x (8 * r) = q at *
  go_enter Try.func67, Try.ntmps67
  go_wp2_with (go_at_call 84; refine (H.out.go _).mono ?_; rintro e w1 ⟨rfl, rfl⟩)
  go_ret
  exact ⟨rfl, rfl⟩
/-- What a column becomes, of its first j rows. -/
def whp (f : Nat → Nat) (c : Nat) : Nat → Nat
  | 0 => 0
  | j + 1 => whp f c j ^^^ rl64 (f (c / 2 ^ (8 * j) % 256)) (8 * j)
theorem whp_lt (f : Nat → Nat) (hf : ∀ x, f x < 2 ^ 64) (c : Nat) : ∀ j, whp f c j < 2 ^ 64
  | 0 => by unfold whp; decide
  | j + 1 => by
    unfold whp
    exact Nat.xor_lt_two_pow (whp_lt f hf c j) (rl64_lt _ _ (hf _))
set_option maxHeartbeats 800000 in
theorem whole_any (g o c : Nat) (f : Nat → Nat) (hf : ∀ x, f x < 2 ^ 64) (w : World) (hc : Cols w g o f) :
    Calls Try.prog 48 #[.pointer (some ⟨g, o, none⟩), .int .u64 (c : Int)] w fun e w' => e = .returned (.int .u64 ((whp f c 8 : Nat) : Int)) ∧ w' = w := by
  have HC : Hid (Cols w g o f) := hc
  have HF : Hid (∀ x, f x < 2 ^ 64) := hf
  clear hc hf
  go_enter Try.func48, Try.ntmps48
  go_wp2
  go_loopw [5, 7] (fun v u wr => ∃ j : Nat, j ≤ 8 ∧ v = .int .u64 ((whp f c j : Nat) : Int) ∧ u = .int .i64 j ∧ w = wr) (fun _ u _ => 8 - (intOf u).toNat)
  case atStart => exact ⟨0, by omega, rfl, rfl, rfl⟩
  case round =>
    obtain ⟨j, hj, rfl, rfl, rfl⟩ := hrel
    by_cases hlt : j < 8
    · have HA : Hid (Same 49 #[.int .u64 (c : Int), .int .i64 (j : Int)] (.int .u8 ((c / 2 ^ (8 * j) % 256 : Nat) : Int))) := at_any c j hlt
      have hb : c / 2 ^ (8 * j) % 256 < 256 := Nat.mod_lt _ (by decide)
      have HL := alone_any g o j (c / 2 ^ (8 * j) % 256) (f (c / 2 ^ (8 * j) % 256)) w hlt hb (HF.out _) (HC.out _ hb)
      have hx : bits .xor .u64 ((whp f c j : Nat) : Int) ((rl64 (f (c / 2 ^ (8 * j) % 256)) (8 * j) : Nat) : Int) = ((whp f c (j + 1) : Nat) : Int) := u64_xor_nat _ _ (whp_lt f HF.out c j) (rl64_lt _ _ (HF.out _))
      generalize rl64 (f (c / 2 ^ (8 * j) % 256)) (8 * j) = q at *
      generalize c / 2 ^ (8 * j) % 256 = b at *
      generalize hz : whp f c (j + 1) = z at *
      generalize whp f c j = y at *
      have H2 : Hid (Calls Try.prog 67 #[.pointer (some ⟨g, o, none⟩), .int .i64 (j : Int), .int .u8 (b : Int)] w fun e w' => e = .returned (.int .u64 (q : Int)) ∧ w' = w) := HL
      clear HL
      have HZ : Hid (whp f c (j + 1) = z) := hz
      clear hz
      go_wp2_with (first | (go_at_call 49; refine (HA.out.go _).mono ?_; rintro e w1 ⟨rfl, rfl⟩) | (go_at_call 67; refine H2.out.mono ?_; rintro e w1 ⟨rfl, rfl⟩))
      exact ⟨⟨j + 1, hlt, by rw [HZ.out], by simp, trivial⟩, by simp [intOf]; omega⟩
    · obtain rfl : j = 8 := by omega
      go_wp2
      go_ret
      exact ⟨rfl, rfl⟩
end Go.Proofs.Ytbmjceiogfhffaa
