/- The contract of steeplelaw22.Few over the seat's translation. -/
import Derived.Test.YtefgkgmjhboobaaCmI
namespace Go.Proofs.Ytefgkgmjhboobaa
open Go.RowKit
open Cb

def fwB (C w : Int) (n nz : Nat) : Prop := (n ≤ 12 ∨ (200 < n ∧ n ≤ 210)) ∧ (C ≤ 2 ∨ 6 < C) ∧ (w ≤ 3 ∨ 6 < w) ∧ nz ≤ 8
instance (C w : Int) (n nz : Nat) : Decidable (fwB C w n nz) := by unfold fwB; infer_instance
set_option maxHeartbeats 20000000 in
set_option maxRecDepth 100000 in
theorem few22 (C w : Int) (a z : Option Addr) (n nz cap zcap : Nat) (b : Nat × Nat) : Ret 9 #[.agg #[.int .i64 C, .int .i64 w, .slice a n cap, .slice z nz zcap, .int .u64 (b.1 : Int), .int .u64 (b.2 : Int)]] (.bool (decide (fwB C w n nz))) := by
  intro W
  obtain ⟨y, hy⟩ : ∃ y, y = decide (fwB C w n nz) := ⟨_, rfl⟩
  rw [← hy]
  by_cases n1 : (n : Int) ≤ 12
  · by_cases g1 : C ≤ 2
    · by_cases w1 : w ≤ 3
      · by_cases d1 : (nz : Int) ≤ 8
        · obtain rfl : y = true := by rw [hy]; exact decide_eq_true (by unfold fwB; omega)
          clear hy
          go_enter Try.func9, Try.ntmps9
          go_wp2
          go_ret
          exact ⟨rfl, by go_grown⟩
        · obtain rfl : y = false := by rw [hy]; exact decide_eq_false (by unfold fwB; omega)
          clear hy
          go_enter Try.func9, Try.ntmps9
          go_wp2
          go_ret
          exact ⟨rfl, by go_grown⟩
      · by_cases w2 : 6 < w
        · by_cases d1 : (nz : Int) ≤ 8
          · obtain rfl : y = true := by rw [hy]; exact decide_eq_true (by unfold fwB; omega)
            clear hy
            go_enter Try.func9, Try.ntmps9
            go_wp2
            go_ret
            exact ⟨rfl, by go_grown⟩
          · obtain rfl : y = false := by rw [hy]; exact decide_eq_false (by unfold fwB; omega)
            clear hy
            go_enter Try.func9, Try.ntmps9
            go_wp2
            go_ret
            exact ⟨rfl, by go_grown⟩
        · obtain rfl : y = false := by rw [hy]; exact decide_eq_false (by unfold fwB; omega)
          clear hy
          go_enter Try.func9, Try.ntmps9
          go_wp2
          go_ret
          exact ⟨rfl, by go_grown⟩
    · by_cases g2 : 6 < C
      · by_cases w1 : w ≤ 3
        · by_cases d1 : (nz : Int) ≤ 8
          · obtain rfl : y = true := by rw [hy]; exact decide_eq_true (by unfold fwB; omega)
            clear hy
            go_enter Try.func9, Try.ntmps9
            go_wp2
            go_ret
            exact ⟨rfl, by go_grown⟩
          · obtain rfl : y = false := by rw [hy]; exact decide_eq_false (by unfold fwB; omega)
            clear hy
            go_enter Try.func9, Try.ntmps9
            go_wp2
            go_ret
            exact ⟨rfl, by go_grown⟩
        · by_cases w2 : 6 < w
          · by_cases d1 : (nz : Int) ≤ 8
            · obtain rfl : y = true := by rw [hy]; exact decide_eq_true (by unfold fwB; omega)
              clear hy
              go_enter Try.func9, Try.ntmps9
              go_wp2
              go_ret
              exact ⟨rfl, by go_grown⟩
            · obtain rfl : y = false := by rw [hy]; exact decide_eq_false (by unfold fwB; omega)
              clear hy
              go_enter Try.func9, Try.ntmps9
              go_wp2
              go_ret
              exact ⟨rfl, by go_grown⟩
          · obtain rfl : y = false := by rw [hy]; exact decide_eq_false (by unfold fwB; omega)
            clear hy
            go_enter Try.func9, Try.ntmps9
            go_wp2
            go_ret
            exact ⟨rfl, by go_grown⟩
      · obtain rfl : y = false := by rw [hy]; exact decide_eq_false (by unfold fwB; omega)
        clear hy
        go_enter Try.func9, Try.ntmps9
        go_wp2
        go_ret
        exact ⟨rfl, by go_grown⟩
  · by_cases n2 : 200 < (n : Int)
    · by_cases n3 : (n : Int) ≤ 210
      · by_cases g1 : C ≤ 2
        · by_cases w1 : w ≤ 3
          · by_cases d1 : (nz : Int) ≤ 8
            · obtain rfl : y = true := by rw [hy]; exact decide_eq_true (by unfold fwB; omega)
              clear hy
              go_enter Try.func9, Try.ntmps9
              go_wp2
              go_ret
              exact ⟨rfl, by go_grown⟩
            · obtain rfl : y = false := by rw [hy]; exact decide_eq_false (by unfold fwB; omega)
              clear hy
              go_enter Try.func9, Try.ntmps9
              go_wp2
              go_ret
              exact ⟨rfl, by go_grown⟩
          · by_cases w2 : 6 < w
            · by_cases d1 : (nz : Int) ≤ 8
              · obtain rfl : y = true := by rw [hy]; exact decide_eq_true (by unfold fwB; omega)
                clear hy
                go_enter Try.func9, Try.ntmps9
                go_wp2
                go_ret
                exact ⟨rfl, by go_grown⟩
              · obtain rfl : y = false := by rw [hy]; exact decide_eq_false (by unfold fwB; omega)
                clear hy
                go_enter Try.func9, Try.ntmps9
                go_wp2
                go_ret
                exact ⟨rfl, by go_grown⟩
            · obtain rfl : y = false := by rw [hy]; exact decide_eq_false (by unfold fwB; omega)
              clear hy
              go_enter Try.func9, Try.ntmps9
              go_wp2
              go_ret
              exact ⟨rfl, by go_grown⟩
        · by_cases g2 : 6 < C
          · by_cases w1 : w ≤ 3
            · by_cases d1 : (nz : Int) ≤ 8
              · obtain rfl : y = true := by rw [hy]; exact decide_eq_true (by unfold fwB; omega)
                clear hy
                go_enter Try.func9, Try.ntmps9
                go_wp2
                go_ret
                exact ⟨rfl, by go_grown⟩
              · obtain rfl : y = false := by rw [hy]; exact decide_eq_false (by unfold fwB; omega)
                clear hy
                go_enter Try.func9, Try.ntmps9
                go_wp2
                go_ret
                exact ⟨rfl, by go_grown⟩
            · by_cases w2 : 6 < w
              · by_cases d1 : (nz : Int) ≤ 8
                · obtain rfl : y = true := by rw [hy]; exact decide_eq_true (by unfold fwB; omega)
                  clear hy
                  go_enter Try.func9, Try.ntmps9
                  go_wp2
                  go_ret
                  exact ⟨rfl, by go_grown⟩
                · obtain rfl : y = false := by rw [hy]; exact decide_eq_false (by unfold fwB; omega)
                  clear hy
                  go_enter Try.func9, Try.ntmps9
                  go_wp2
                  go_ret
                  exact ⟨rfl, by go_grown⟩
              · obtain rfl : y = false := by rw [hy]; exact decide_eq_false (by unfold fwB; omega)
                clear hy
                go_enter Try.func9, Try.ntmps9
                go_wp2
                go_ret
                exact ⟨rfl, by go_grown⟩
          · obtain rfl : y = false := by rw [hy]; exact decide_eq_false (by unfold fwB; omega)
            clear hy
            go_enter Try.func9, Try.ntmps9
            go_wp2
            go_ret
            exact ⟨rfl, by go_grown⟩
      · obtain rfl : y = false := by rw [hy]; exact decide_eq_false (by unfold fwB; omega)
        clear hy
        go_enter Try.func9, Try.ntmps9
        go_wp2
        go_ret
        exact ⟨rfl, by go_grown⟩
    · obtain rfl : y = false := by rw [hy]; exact decide_eq_false (by unfold fwB; omega)
      clear hy
      go_enter Try.func9, Try.ntmps9
      go_wp2
      go_ret
      exact ⟨rfl, by go_grown⟩
end Go.Proofs.Ytefgkgmjhboobaa
