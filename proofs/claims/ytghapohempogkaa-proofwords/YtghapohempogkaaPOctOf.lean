/- Contracts of octet's writing leaves over the seat's translation: together, highFirst, Num, Text. -/
import Derived.Test.YtghapohempogkaaProg
import Derived.WalkKit
import Derived.WalkLawsBesides
import Derived.WalkSpells
import Derived.Laws.BytesArg
import Derived.Deep.QuietTactic
import Derived.BigQuiet
import Derived.Handy
namespace Go.Proofs.Ytghapohempogkaa
open Go.RowKit

set_option maxHeartbeats 400000 in
theorem high_any (n : Int) (h0 : 0 ≤ n) (h1 : n ≤ 2147483647) (w : World) : Calls Try.prog 37 #[.int .i64 n] w fun e w' => e = .returned (.agg #[.int .u8 (n / 16777216), .int .u8 (n / 65536 % 256), .int .u8 (n / 256 % 256), .int .u8 (n % 256)]) ∧ Below w.heap.size w w' := by
  go_enter Try.func37, Try.ntmps37
  go_wp2
  exact bodyPost_ret (v := .agg #[.int .u8 (n / 16777216), .int .u8 (n / 65536 % 256), .int .u8 (n / 256 % 256), .int .u8 (n % 256)]) (by simp [results, Try.results37, go_sem]) rfl ⟨rfl, (Below.refl _ _).alloc (Nat.le_refl _) _⟩

set_option maxHeartbeats 400000 in
theorem together_any (b off len cap : Nat) (xs : List Int) (hlen : xs.length = len) (w : World) (hcell : ∀ i, i < len → w.cell? ⟨b, off + i, none⟩ = some (.int .u8 (xs.getD i 0))) : Calls Try.prog 38 #[.slice (some ⟨b, off, none⟩) len cap] w fun e w' => e = .returned (.string (strOfNums xs)) ∧ w' = w := by
  have g := run_convert_bytes_arg (P := Try.prog) w 56 5 Try.underlying56 Try.underlying5 b off len cap xs hlen hcell 9 Try.underlying9
  clear hcell hlen
  go_enter Try.func38, Try.ntmps38
  go_wp2
  go_ret
  exact ⟨rfl, rfl⟩

/-- A number's bytes, as numbers. -/
def numL (n : Int) : List Int := [n / 16777216, n / 65536 % 256, n / 256 % 256, n % 256]
/-- A number's bytes: none, if it can't be written. -/
def numS (n : Int) : ByteArray := strOfNums (if 0 ≤ n ∧ n ≤ 2147483647 then numL n else [])
theorem numS_ok (n : Int) (h0 : 0 ≤ n) (h1 : n ≤ 2147483647) : numS n = strOfNums (numL n) := by unfold numS; rw [if_pos ⟨h0, h1⟩]
theorem numS_bad (n : Int) (h : n < 0 ∨ 2147483647 < n) : numS n = ⟨#[]⟩ := by unfold numS; rw [if_neg (by omega)]; rfl

set_option maxHeartbeats 400000 in
theorem num_ok (n : Int) (h0 : 0 ≤ n) (h1 : n ≤ 2147483647) (w : World) : Calls Try.prog 26 #[.int .i64 n] w fun e w' => e = .returned (.string (strOfNums (numL n))) ∧ Below w.heap.size w w' := by
  go_enter Try.func26, Try.ntmps26
  go_wp2_with (go_at_call 37; refine (high_any _ (by omega) (by omega) _).mono ?_; rintro e w1 ⟨rfl, hb⟩)
  refine (together_any _ _ _ _ (numL n) rfl _ ?_).mono ?_
  · intro i hi
    match i, hi with
    | 0, _ => simp [go_sem, numL]
    | 1, _ => simp [go_sem, numL]
    | 2, _ => simp [go_sem, numL]
    | 3, _ => simp [go_sem, numL]
  rintro e w2 ⟨rfl, rfl⟩
  go_wp2
  go_ret
  exact ⟨rfl, hb.alloc hb.size _⟩
set_option maxHeartbeats 400000 in
theorem num_bad (n : Int) (h : n < 0 ∨ 2147483647 < n) (w : World) : Calls Try.prog 26 #[.int .i64 n] w fun e w' => e = .returned (.string ⟨#[]⟩) ∧ w' = w := by
  rcases h with h | h
  · go_enter Try.func26, Try.ntmps26
    go_wp2
    go_ret
    exact ⟨rfl, rfl⟩
  · have h2 : ¬ n < 0 := by omega
    go_enter Try.func26, Try.ntmps26
    go_wp2
    go_ret
    exact ⟨rfl, rfl⟩
theorem num_any (n : Int) (w : World) : Calls Try.prog 26 #[.int .i64 n] w fun e w' => e = .returned (.string (numS n)) ∧ Below w.heap.size w w' := by
  by_cases h : 0 ≤ n ∧ n ≤ 2147483647
  · rw [numS_ok n h.1 h.2]
    exact num_ok n h.1 h.2 w
  · rw [numS_bad n (by omega)]
    refine (num_bad n (by omega) w).mono ?_
    rintro e w' ⟨rfl, rfl⟩
    exact ⟨rfl, Below.refl _ _⟩

/-- A text's bytes. -/
def textS (s : ByteArray) : ByteArray := numS s.size ++ s

theorem numS_size (n : Int) : (numS n).size ≤ 4 := by
  unfold numS; rw [strOfNums_size]; split <;> simp [numL]

end Go.Proofs.Ytghapohempogkaa

/- Contracts of octet.isLevel and octet.Of over the seat's translation. -/
namespace Go.Proofs.Ytghapohempogkaa
open Go.RowKit

/-- Is there such a level? -/
def levelB (l : Int) : Bool := decide (0 ≤ l) && decide (l ≤ 7)
set_option maxHeartbeats 400000 in
theorem isLevel_any (l : Int) (w : World) : Calls Try.prog 49 #[.int .i64 l] w fun e w' => e = .returned (.bool (levelB l)) ∧ w' = w := by
  by_cases h0 : 0 ≤ l
  · by_cases h7 : l ≤ 7
    · rw [show levelB l = true by simp [levelB, h0, h7]]
      go_enter Try.func49, Try.ntmps49
      go_wp2
      go_ret
      exact ⟨by simp, rfl⟩
    · rw [show levelB l = false by simp [levelB, h7]]
      go_enter Try.func49, Try.ntmps49
      go_wp2
      go_ret
      exact ⟨by simp, rfl⟩
  · rw [show levelB l = false by simp [levelB, h0]]
    go_enter Try.func49, Try.ntmps49
    go_wp2
    go_ret
    exact ⟨by simp, rfl⟩
theorem level_cases (l : Int) (h : levelB l = true) : l = 0 ∨ l = 1 ∨ l = 2 ∨ l = 3 ∨ l = 4 ∨ l = 5 ∨ l = 6 ∨ l = 7 := by
  simp [levelB] at h; omega

/-- Is an element of a level? -/
def ofB (l hi lo : Int) : Bool := levelB l && (decide (l = 7) || (decide (hi = 0) && decide (lo < 2 ^ (2 ^ l.toNat))))

theorem ret_bool {a b : Bool} (h : a = b) : Ending.returned (.bool a) = .returned (.bool b) := by rw [h]

set_option maxHeartbeats 400000 in
theorem of_low (l hi lo : Int) (hl : l = 0 ∨ l = 1 ∨ l = 2 ∨ l = 3 ∨ l = 4 ∨ l = 5 ∨ l = 6) (h0 : 0 ≤ lo) (h1 : lo < 18446744073709551616) (hh : hi = 0) (w : World) : Calls Try.prog 41 #[.int .i64 l, .agg #[.int .u64 hi, .int .u64 lo]] w fun e w' => e = .returned (.bool (ofB l hi lo)) ∧ Below w.heap.size w w' := by
  subst hh
  rcases hl with rfl | rfl | rfl | rfl | rfl | rfl | rfl
  all_goals
    go_enter Try.func41, Try.ntmps41
    go_wp2
    go_quiet (fail)
    go_wp2
    go_ret
    refine ⟨ret_bool ?_, ?_⟩
    rotate_left
    · exact below_drewN ((Below.refl _ _).alloc (Nat.le_refl _) _) _
    rw [Bool.eq_iff_iff]
    simp [ofB, levelB]
    omega
set_option maxHeartbeats 400000 in
theorem of_any (l hi lo : Int) (h0 : 0 ≤ lo) (h1 : lo < 18446744073709551616) (w : World) : Calls Try.prog 41 #[.int .i64 l, .agg #[.int .u64 hi, .int .u64 lo]] w fun e w' => e = .returned (.bool (ofB l hi lo)) ∧ Below w.heap.size w w' := by
  cases h : levelB l
  · have e : ofB l hi lo = false := by simp [ofB, h]
    rw [e]
    go_enter Try.func41, Try.ntmps41
    go_wp2_with (go_at_call 49; refine (isLevel_any _ _).mono ?_; rintro e w1 ⟨rfl, rfl⟩)
    go_ret
    exact ⟨rfl, (Below.refl _ _).alloc (Nat.le_refl _) _⟩
  · by_cases h7 : l = 7
    · subst h7
      rw [show ofB 7 hi lo = true by simp [ofB, levelB]]
      clear h
      go_enter Try.func41, Try.ntmps41
      go_wp2
      go_ret
      exact ⟨rfl, (Below.refl _ _).alloc (Nat.le_refl _) _⟩
    · have hl : l = 0 ∨ l = 1 ∨ l = 2 ∨ l = 3 ∨ l = 4 ∨ l = 5 ∨ l = 6 := by have := level_cases l h; omega
      by_cases hh : hi = 0
      · exact of_low l hi lo hl h0 h1 hh w
      · have e : ofB l hi lo = false := by simp [ofB, h7, hh]
        rw [e]
        have hq : (hi == 0) = false := by simpa using hh
        have h7' : (l == 7) = false := by simpa using h7
        go_enter Try.func41, Try.ntmps41
        go_wp2_with (go_at_call 49; refine (isLevel_any _ _).mono ?_; rintro e w1 ⟨rfl, rfl⟩)
        go_quiet (fail)
        go_wp2
        go_ret
        exact ⟨rfl, below_drewN ((Below.refl _ _).alloc (Nat.le_refl _) _) _⟩

end Go.Proofs.Ytghapohempogkaa
