/- Contracts of octet's writing leaves over the seat's translation: isLevel, Wide. -/
import Derived.Test.YteejjgcfdndnpaaOctNum
import Derived.Test.YteejjgcfdndnpaaOctOf
namespace Go.Proofs.Yteejjgcfdndnpaa
open Go.RowKit

/-- How many bytes an element of a level has. -/
def wideI (l : Int) : Int := if l = 0 ∨ l = 1 ∨ l = 2 ∨ l = 3 then 1 else if l = 4 then 2 else if l = 5 then 4 else if l = 6 then 8 else if l = 7 then 16 else 0
set_option maxHeartbeats 400000 in
theorem wide_any (l : Int) (w : World) : Calls Try.prog 12 #[.int .i64 l] w fun e w' => e = .returned (.int .i64 (wideI l)) ∧ w' = w := by
  cases h : levelB l
  · have e : wideI l = 0 := by simp [levelB] at h; unfold wideI; repeat (rw [if_neg (by omega)])
    rw [e]
    go_enter Try.func12, Try.ntmps12
    go_wp2_with (go_at_call 33; refine (isLevel_any _ _).mono ?_; rintro e w1 ⟨rfl, rfl⟩)
    go_ret
    exact ⟨rfl, rfl⟩
  · rcases level_cases l h with rfl | rfl | rfl | rfl | rfl | rfl | rfl | rfl
    all_goals
      clear h
      go_enter Try.func12, Try.ntmps12
      go_wp2
      go_ret
      exact ⟨rfl, rfl⟩
end Go.Proofs.Yteejjgcfdndnpaa
