/- Contracts of octet's writing leaves over the seat's translation: together, highFirst, Num, Text. -/
import Derived.Test.YtjllijoiakccpaaProg
import Derived.WalkKit
import Derived.WalkLawsBesides
import Derived.WalkSpells
import Derived.Laws.BytesArg
namespace Go.Proofs.Ytjllijoiakccpaa
open Go.RowKit

set_option maxHeartbeats 400000 in
theorem high_any (n : Int) (h0 : 0 ≤ n) (h1 : n ≤ 2147483647) (w : World) : Calls Try.prog 22 #[.int .i64 n] w fun e w' => e = .returned (.agg #[.int .u8 (n / 16777216), .int .u8 (n / 65536 % 256), .int .u8 (n / 256 % 256), .int .u8 (n % 256)]) ∧ Below w.heap.size w w' := by
  go_enter Try.func22, Try.ntmps22
  go_wp2
  exact bodyPost_ret (v := .agg #[.int .u8 (n / 16777216), .int .u8 (n / 65536 % 256), .int .u8 (n / 256 % 256), .int .u8 (n % 256)]) (by simp [results, Try.results22, go_sem]) rfl ⟨rfl, (Below.refl _ _).alloc (Nat.le_refl _) _⟩

set_option maxHeartbeats 400000 in
theorem together_any (b off len cap : Nat) (xs : List Int) (hlen : xs.length = len) (w : World) (hcell : ∀ i, i < len → w.cell? ⟨b, off + i, none⟩ = some (.int .u8 (xs.getD i 0))) : Calls Try.prog 23 #[.slice (some ⟨b, off, none⟩) len cap] w fun e w' => e = .returned (.string (strOfNums xs)) ∧ w' = w := by
  have g := run_convert_bytes_arg (P := Try.prog) w 43 5 Try.underlying43 Try.underlying5 b off len cap xs hlen hcell 9 Try.underlying9
  clear hcell hlen
  go_enter Try.func23, Try.ntmps23
  go_wp2
  go_ret
  exact ⟨rfl, rfl⟩

/-- A number's bytes, as numbers. -/
def numL (n : Int) : List Int := [n / 16777216, n / 65536 % 256, n / 256 % 256, n % 256]
/-- A number's bytes: none, if it can't be written. -/
def numS (n : Int) : ByteArray := strOfNums (if 0 ≤ n ∧ n ≤ 2147483647 then numL n else [])
theorem numS_ok (n : Int) (h0 : 0 ≤ n) (h1 : n ≤ 2147483647) : numS n = strOfNums (numL n) := by unfold numS; rw [if_pos ⟨h0, h1⟩]
theorem numS_bad (n : Int) (h : n < 0 ∨ 2147483647 < n) : numS n = ⟨#[]⟩ := by unfold numS; rw [if_neg (by omega)]; rfl

set_option maxHeartbeats 400000 in
theorem num_ok (n : Int) (h0 : 0 ≤ n) (h1 : n ≤ 2147483647) (w : World) : Calls Try.prog 16 #[.int .i64 n] w fun e w' => e = .returned (.string (strOfNums (numL n))) ∧ Below w.heap.size w w' := by
  go_enter Try.func16, Try.ntmps16
  go_wp2_with (go_at_call 22; refine (high_any _ (by omega) (by omega) _).mono ?_; rintro e w1 ⟨rfl, hb⟩)
  refine (together_any _ _ _ _ (numL n) rfl _ ?_).mono ?_
  · intro i hi
    match i, hi with
    | 0, _ => simp [go_sem, numL]
    | 1, _ => simp [go_sem, numL]
    | 2, _ => simp [go_sem, numL]
    | 3, _ => simp [go_sem, numL]
  rintro e w2 ⟨rfl, rfl⟩
  go_wp2
  go_ret
  exact ⟨rfl, hb.alloc hb.size _⟩
set_option maxHeartbeats 400000 in
theorem num_bad (n : Int) (h : n < 0 ∨ 2147483647 < n) (w : World) : Calls Try.prog 16 #[.int .i64 n] w fun e w' => e = .returned (.string ⟨#[]⟩) ∧ w' = w := by
  rcases h with h | h
  · go_enter Try.func16, Try.ntmps16
    go_wp2
    go_ret
    exact ⟨rfl, rfl⟩
  · have h2 : ¬ n < 0 := by omega
    go_enter Try.func16, Try.ntmps16
    go_wp2
    go_ret
    exact ⟨rfl, rfl⟩
theorem num_any (n : Int) (w : World) : Calls Try.prog 16 #[.int .i64 n] w fun e w' => e = .returned (.string (numS n)) ∧ Below w.heap.size w w' := by
  by_cases h : 0 ≤ n ∧ n ≤ 2147483647
  · rw [numS_ok n h.1 h.2]
    exact num_ok n h.1 h.2 w
  · rw [numS_bad n (by omega)]
    refine (num_bad n (by omega) w).mono ?_
    rintro e w' ⟨rfl, rfl⟩
    exact ⟨rfl, Below.refl _ _⟩

/-- A text's bytes. -/
def textS (s : ByteArray) : ByteArray := numS s.size ++ s

theorem numS_size (n : Int) : (numS n).size ≤ 4 := by
  unfold numS; rw [strOfNums_size]; split <;> simp [numL]

end Go.Proofs.Ytjllijoiakccpaa
