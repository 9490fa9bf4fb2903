/- Contracts of octet.isLevel and octet.Of over the seat's translation. -/
import Derived.Test.YtccpbpajappckaaProg
import Derived.WalkKit
import Derived.WalkLawsBesides
import Derived.WalkSpells
import Derived.Deep.QuietTactic
import Derived.BigQuiet
import Derived.Handy
namespace Go.Proofs.Ytccpbpajappckaa
open Go.RowKit

/-- Is there such a level? -/
def levelB (l : Int) : Bool := decide (0 ≤ l) && decide (l ≤ 7)
set_option maxHeartbeats 400000 in
theorem isLevel_any (l : Int) (w : World) : Calls Try.prog 46 #[.int .i64 l] w fun e w' => e = .returned (.bool (levelB l)) ∧ w' = w := by
  by_cases h0 : 0 ≤ l
  · by_cases h7 : l ≤ 7
    · rw [show levelB l = true by simp [levelB, h0, h7]]
      go_enter Try.func46, Try.ntmps46
      go_wp2
      go_ret
      exact ⟨by simp, rfl⟩
    · rw [show levelB l = false by simp [levelB, h7]]
      go_enter Try.func46, Try.ntmps46
      go_wp2
      go_ret
      exact ⟨by simp, rfl⟩
  · rw [show levelB l = false by simp [levelB, h0]]
    go_enter Try.func46, Try.ntmps46
    go_wp2
    go_ret
    exact ⟨by simp, rfl⟩
theorem level_cases (l : Int) (h : levelB l = true) : l = 0 ∨ l = 1 ∨ l = 2 ∨ l = 3 ∨ l = 4 ∨ l = 5 ∨ l = 6 ∨ l = 7 := by
  simp [levelB] at h; omega

/-- Is an element of a level? -/
def ofB (l hi lo : Int) : Bool := levelB l && (decide (l = 7) || (decide (hi = 0) && decide (lo < 2 ^ (2 ^ l.toNat))))

theorem ret_bool {a b : Bool} (h : a = b) : Ending.returned (.bool a) = .returned (.bool b) := by rw [h]

set_option maxHeartbeats 400000 in
theorem of_low (l hi lo : Int) (hl : l = 0 ∨ l = 1 ∨ l = 2 ∨ l = 3 ∨ l = 4 ∨ l = 5 ∨ l = 6) (h0 : 0 ≤ lo) (h1 : lo < 18446744073709551616) (hh : hi = 0) (w : World) : Calls Try.prog 36 #[.int .i64 l, .agg #[.int .u64 hi, .int .u64 lo]] w fun e w' => e = .returned (.bool (ofB l hi lo)) ∧ Below w.heap.size w w' := by
  subst hh
  rcases hl with rfl | rfl | rfl | rfl | rfl | rfl | rfl
  all_goals
    go_enter Try.func36, Try.ntmps36
    go_wp2
    go_quiet (fail)
    go_wp2
    go_ret
    refine ⟨ret_bool ?_, ?_⟩
    rotate_left
    · exact below_drewN ((Below.refl _ _).alloc (Nat.le_refl _) _) _
    rw [Bool.eq_iff_iff]
    simp [ofB, levelB]
    omega
set_option maxHeartbeats 400000 in
theorem of_any (l hi lo : Int) (h0 : 0 ≤ lo) (h1 : lo < 18446744073709551616) (w : World) : Calls Try.prog 36 #[.int .i64 l, .agg #[.int .u64 hi, .int .u64 lo]] w fun e w' => e = .returned (.bool (ofB l hi lo)) ∧ Below w.heap.size w w' := by
  cases h : levelB l
  · have e : ofB l hi lo = false := by simp [ofB, h]
    rw [e]
    go_enter Try.func36, Try.ntmps36
    go_wp2_with (go_at_call 46; refine (isLevel_any _ _).mono ?_; rintro e w1 ⟨rfl, rfl⟩)
    go_ret
    exact ⟨rfl, (Below.refl _ _).alloc (Nat.le_refl _) _⟩
  · by_cases h7 : l = 7
    · subst h7
      rw [show ofB 7 hi lo = true by simp [ofB, levelB]]
      clear h
      go_enter Try.func36, Try.ntmps36
      go_wp2
      go_ret
      exact ⟨rfl, (Below.refl _ _).alloc (Nat.le_refl _) _⟩
    · have hl : l = 0 ∨ l = 1 ∨ l = 2 ∨ l = 3 ∨ l = 4 ∨ l = 5 ∨ l = 6 := by have := level_cases l h; omega
      by_cases hh : hi = 0
      · exact of_low l hi lo hl h0 h1 hh w
      · have e : ofB l hi lo = false := by simp [ofB, h7, hh]
        rw [e]
        have hq : (hi == 0) = false := by simpa using hh
        have h7' : (l == 7) = false := by simpa using h7
        go_enter Try.func36, Try.ntmps36
        go_wp2_with (go_at_call 46; refine (isLevel_any _ _).mono ?_; rintro e w1 ⟨rfl, rfl⟩)
        go_quiet (fail)
        go_wp2
        go_ret
        exact ⟨rfl, below_drewN ((Below.refl _ _).alloc (Nat.le_refl _) _) _⟩

end Go.Proofs.Ytccpbpajappckaa
