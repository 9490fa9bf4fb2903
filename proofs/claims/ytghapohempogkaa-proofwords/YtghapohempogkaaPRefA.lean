/- Contracts of steepleref01.Wide and Bytes over the seat's translation. -/
import Derived.Test.YtghapohempogkaaOeA
import Derived.Test.YtghapohempogkaaRfE
import Derived.Test.YtghapohempogkaaOctL
namespace Go.Proofs.Ytghapohempogkaa
open Go.RowKit

set_option maxHeartbeats 2000000 in
theorem rwide (l : Int) (W : World) : Calls Try.prog 34 #[.int .i64 l] W fun e w' => e = .returned (.int .i64 (wideI l)) ∧ Below W.heap.size W w' := by
  by_cases h : 0 ≤ l ∧ l ≤ 7
  · obtain rfl | rfl | rfl | rfl | rfl | rfl | rfl | rfl : l = 0 ∨ l = 1 ∨ l = 2 ∨ l = 3 ∨ l = 4 ∨ l = 5 ∨ l = 6 ∨ l = 7 := by omega
    all_goals
      clear h
      go_enter Try.func34, Try.ntmps34
      go_wp2
      go_ret
      exact ⟨rfl, by go_grown⟩
  · have hw : wideI l = 0 := by unfold wideI; split <;> (try split) <;> (try split) <;> (try split) <;> (try split) <;> first | rfl | omega
    rw [hw]
    rcases Int.lt_or_le l 0 with h1 | h1
    · clear h hw
      go_enter Try.func34, Try.ntmps34
      go_wp2
      go_ret
      exact ⟨rfl, by go_grown⟩
    · have h2 : 7 < l := by omega
      clear h hw
      go_enter Try.func34, Try.ntmps34
      go_wp2
      go_ret
      exact ⟨rfl, by go_grown⟩
/-- The byte i of an element. -/
def byN (h l i : Nat) : Nat := if i < 8 then l / 2 ^ (8 * i) % 256 else h / 2 ^ (8 * (i - 8)) % 256
theorem by_lt (h l i : Nat) : byN h l i < 256 := by unfold byN; split <;> exact Nat.mod_lt _ (by decide)
theorem bit_step (x i k : Nat) (hk : k < 8) : (x / 2 ^ (8 * i) % 256) / 2 ^ k % 2 = x / 2 ^ (8 * i + k) % 2 := by
  rw [Nat.pow_add, ← Nat.div_div_eq_div_mul]
  generalize x / 2 ^ (8 * i) = q
  obtain rfl | rfl | rfl | rfl | rfl | rfl | rfl | rfl : k = 0 ∨ k = 1 ∨ k = 2 ∨ k = 3 ∨ k = 4 ∨ k = 5 ∨ k = 6 ∨ k = 7 := by omega
  all_goals (simp <;> omega)
theorem by_bit (h l i k : Nat) (hi : i < 16) (hk : k < 8) : byN h l i / 2 ^ k % 2 = bitN h l (8 * i + k) := by
  unfold byN bitN
  by_cases h8 : i < 8
  · rw [if_pos h8, if_pos (by omega)]
    exact bit_step l i k hk
  · rw [if_neg h8, if_neg (by omega)]
    have := bit_step h (i - 8) k hk
    rw [this]
    congr 3
    omega
theorem by_half (x k : Nat) : 2 * (x / 2 ^ (k + 1)) + x / 2 ^ k % 2 = x / 2 ^ k := by
  rw [Nat.pow_succ, ← Nat.div_div_eq_div_mul]
  omega
theorem low_by (h l : Nat) (hh : h < 2 ^ 64) (hl : l < 2 ^ 64) (i : Nat) (hi : i < 16) : (lowL (h : Int) (l : Int)).getD i 0 = ((byN h l i : Nat) : Int) := by
  obtain rfl | rfl | rfl | rfl | rfl | rfl | rfl | rfl | rfl | rfl | rfl | rfl | rfl | rfl | rfl | rfl : i = 0 ∨ i = 1 ∨ i = 2 ∨ i = 3 ∨ i = 4 ∨ i = 5 ∨ i = 6 ∨ i = 7 ∨ i = 8 ∨ i = 9 ∨ i = 10 ∨ i = 11 ∨ i = 12 ∨ i = 13 ∨ i = 14 ∨ i = 15 := by omega
  all_goals simp [lowL, byN]
  all_goals omega
/-- The first so many bytes. -/
def byL (h l n : Nat) : List Int := (List.range n).map fun i => ((byN h l i : Nat) : Int)
theorem byL_low (h l n : Nat) (hh : h < 2 ^ 64) (hl : l < 2 ^ 64) (hn : n ≤ 16) : (lowL (h : Int) (l : Int)).take n = byL h l n := by
  have hlen : ((lowL (h : Int) (l : Int)).take n).length = (byL h l n).length := by simp [lowL, byL]; omega
  refine List.ext_getElem hlen fun i h1 h2 => ?_
  have hi : i < n := by simpa [byL] using h2
  have e := low_by h l hh hl i (by omega)
  have hi16 : i < (lowL (h : Int) (l : Int)).length := by simp [lowL]; omega
  have e2 : (lowL (h : Int) (l : Int)).getD i 0 = (lowL (h : Int) (l : Int))[i] := by simp [List.getD, hi16]
  rw [List.getElem_take, ← e2, e]
  simp [byL]
end Go.Proofs.Ytghapohempogkaa

/- Contracts of steepleref01.Num, Text, List and of steeplelaw01.Few over the seat's translation. -/
namespace Go.Proofs.Ytghapohempogkaa
open Go.RowKit

set_option maxHeartbeats 400000 in
set_option maxRecDepth 100000 in
theorem rnum_ok (n : Int) (h0 : 0 ≤ n) (h1 : n ≤ 2147483647) (w : World) : Calls Try.prog 19 #[.int .i64 n] w fun e w' => e = .returned (.string (strOfNums (numL n))) ∧ Below w.heap.size w w' := by
  have g := run_convert_bytes_arg (P := Try.prog) (w.alloc (Obj.cells #[.int .u8 (n / 16777216), .int .u8 (n / 65536 % 256), .int .u8 (n / 256 % 256), .int .u8 (n % 256)] 5)) 56 5 Try.underlying56 Try.underlying5 w.heap.size 0 4 4 (numL n) rfl (by
    intro i hi
    match i, hi with
    | 0, _ => simp [go_sem, numL]
    | 1, _ => simp [go_sem, numL]
    | 2, _ => simp [go_sem, numL]
    | 3, _ => simp [go_sem, numL]) 9 Try.underlying9
  go_enter Try.func19, Try.ntmps19
  go_wp2
  go_ret
  exact ⟨rfl, (Below.refl _ _).alloc (Nat.le_refl _) _⟩
set_option maxHeartbeats 400000 in
theorem rnum_bad (n : Int) (h : n < 0 ∨ 2147483647 < n) (w : World) : Calls Try.prog 19 #[.int .i64 n] w fun e w' => e = .returned (.string ⟨#[]⟩) ∧ w' = w := by
  rcases h with h | h
  · go_enter Try.func19, Try.ntmps19
    go_wp2
    go_ret
    exact ⟨rfl, rfl⟩
  · have h2 : ¬ n < 0 := by omega
    go_enter Try.func19, Try.ntmps19
    go_wp2
    go_ret
    exact ⟨rfl, rfl⟩
theorem rnum_any (n : Int) (w : World) : Calls Try.prog 19 #[.int .i64 n] w fun e w' => e = .returned (.string (numS n)) ∧ Below w.heap.size w w' := by
  by_cases h : 0 ≤ n ∧ n ≤ 2147483647
  · rw [numS_ok n h.1 h.2]
    exact rnum_ok n h.1 h.2 w
  · rw [numS_bad n (by omega)]
    refine (rnum_bad n (by omega) w).mono ?_
    rintro e w' ⟨rfl, rfl⟩
    exact ⟨rfl, Below.refl _ _⟩
theorem ret_str {a b : ByteArray} (h : a = b) : Ending.returned (.string a) = .returned (.string b) := by rw [h]
theorem ba_ext {a b : ByteArray} (h : a.data.toList = b.data.toList) : a = b := by
  cases a; cases b; simp at h; subst h; rfl
theorem data_append (a b : ByteArray) : (a ++ b).data.toList = a.data.toList ++ b.data.toList := by simp
theorem data_size (x : ByteArray) : x.data.toList.length = x.size := by rw [Array.length_toList]; rfl

end Go.Proofs.Ytghapohempogkaa
