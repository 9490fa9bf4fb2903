/- Contracts of Box and Times, and of all four ways without tables, over the seat's translation. -/
import Derived.Test.YtbmjceiogfhffaaPmG
namespace Go.Proofs.Ytbmjceiogfhffaa
open Go.RowKit

theorem boxm_any (g b : Nat) (hb : b < 256) (w : World) (h : Tab w g) : Calls Try.prog 12 #[.pointer (some ⟨g, 0, none⟩), .int .u8 (b : Int)] w fun e w' => e = .returned (.int .u8 ((bx b : Nat) : Int)) ∧ w' = w := by
  have c := Tabs.box h hb
  generalize bx b = q at *
  go_enter Try.func12, Try.ntmps12
  go_wp2
  go_ret
  exact ⟨rfl, rfl⟩
theorem boxm_nil (b : Nat) (w : World) : Calls Try.prog 12 #[.pointer none, .int .u8 (b : Int)] w fun e w' => e = .returned (.int .u8 0) ∧ w' = w := by
  go_enter Try.func12, Try.ntmps12
  go_wp2
  go_ret
  exact ⟨rfl, rfl⟩
theorem timesm_any (g k b : Nat) (hk : k < 8) (hb : b < 256) (w : World) (h : Tab w g) : Calls Try.prog 14 #[.pointer (some ⟨g, 0, none⟩), .int .i64 (k : Int), .int .u8 (b : Int)] w fun e w' => e = .returned (.int .u8 ((tmv k b : Nat) : Int)) ∧ w' = w := by
  have c : w.cell? ⟨g, 512 + k * 256 + b, none⟩ = some (.int .u8 (tmv k b : Nat)) := by rw [Nat.mul_comm]; exact Tabs.times h hk hb
  generalize tmv k b = q at *
  have h1 : ¬ ((k : Int) < 0) := by omega
  have h2 : ¬ ((8 : Int) ≤ (k : Int)) := by omega
  have h3 : (0 : Int) ≤ (k : Int) := by omega
  have h4 : (k : Int) < 8 := by omega
  go_enter Try.func14, Try.ntmps14
  go_wp2
  go_ret
  exact ⟨rfl, rfl⟩
theorem timesm_out (g : Nat) (k : Int) (b : Nat) (hk : k < 0 ∨ 8 ≤ k) (w : World) : Calls Try.prog 14 #[.pointer (some ⟨g, 0, none⟩), .int .i64 k, .int .u8 (b : Int)] w fun e w' => e = .returned (.int .u8 0) ∧ w' = w := by
  by_cases h : k < 0
  · clear hk
    go_enter Try.func14, Try.ntmps14
    go_wp2
    go_ret
    exact ⟨rfl, rfl⟩
  · have h8 : (8 : Int) ≤ k := by omega
    clear hk
    go_enter Try.func14, Try.ntmps14
    go_wp2
    go_ret
    exact ⟨rfl, rfl⟩
theorem timesm_nil (k : Int) (b : Nat) (w : World) : Calls Try.prog 14 #[.pointer none, .int .i64 k, .int .u8 (b : Int)] w fun e w' => e = .returned (.int .u8 0) ∧ w' = w := by
  go_enter Try.func14, Try.ntmps14
  go_wp2
  go_ret
  exact ⟨rfl, rfl⟩
theorem invv_bit (b : Nat) (hb : b < 2) : invv 3 (0, b) = (0, b) := by
  have h := Tw.iv_bit (al := b) hb
  have : b = 0 ∨ b = 1 := by omega
  unfold invv
  rw [if_pos (by rcases this with rfl | rfl <;> decide)]
  exact Prod.ext h.1 h.2
theorem bx_0 : bx 0 = 99 := by
  unfold bx binv
  rw [invv_bit 0 (by decide)]
  decide
theorem bx_1 : bx 1 = 124 := by
  unfold bx binv
  rw [invv_bit 1 (by decide)]
  decide
theorem tmv_21 : tmv 2 1 = 2 := by
  unfold tmv tmul
  rw [if_pos (by decide), mulv_of (by decide) (by decide), Tw.pm_one' (0, 2) (by decide) (by decide)]
  rfl
end Go.Proofs.Ytbmjceiogfhffaa
