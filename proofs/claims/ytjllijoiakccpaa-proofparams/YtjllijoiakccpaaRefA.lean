/- Contracts of steepleref01.Num, Text, List and of steeplelaw01.Few over the seat's translation. -/
import Derived.Test.YtjllijoiakccpaaOctL
namespace Go.Proofs.Ytjllijoiakccpaa
open Go.RowKit

set_option maxHeartbeats 400000 in
set_option maxRecDepth 100000 in
theorem rnum_ok (n : Int) (h0 : 0 ≤ n) (h1 : n ≤ 2147483647) (w : World) : Calls Try.prog 14 #[.int .i64 n] w fun e w' => e = .returned (.string (strOfNums (numL n))) ∧ Below w.heap.size w w' := by
  have g := run_convert_bytes_arg (P := Try.prog) (w.alloc (Obj.cells #[.int .u8 (n / 16777216), .int .u8 (n / 65536 % 256), .int .u8 (n / 256 % 256), .int .u8 (n % 256)] 5)) 43 5 Try.underlying43 Try.underlying5 w.heap.size 0 4 4 (numL n) rfl (by
    intro i hi
    match i, hi with
    | 0, _ => simp [go_sem, numL]
    | 1, _ => simp [go_sem, numL]
    | 2, _ => simp [go_sem, numL]
    | 3, _ => simp [go_sem, numL]) 9 Try.underlying9
  go_enter Try.func14, Try.ntmps14
  go_wp2
  go_ret
  exact ⟨rfl, (Below.refl _ _).alloc (Nat.le_refl _) _⟩
set_option maxHeartbeats 400000 in
theorem rnum_bad (n : Int) (h : n < 0 ∨ 2147483647 < n) (w : World) : Calls Try.prog 14 #[.int .i64 n] w fun e w' => e = .returned (.string ⟨#[]⟩) ∧ w' = w := by
  rcases h with h | h
  · go_enter Try.func14, Try.ntmps14
    go_wp2
    go_ret
    exact ⟨rfl, rfl⟩
  · have h2 : ¬ n < 0 := by omega
    go_enter Try.func14, Try.ntmps14
    go_wp2
    go_ret
    exact ⟨rfl, rfl⟩
theorem rnum_any (n : Int) (w : World) : Calls Try.prog 14 #[.int .i64 n] w fun e w' => e = .returned (.string (numS n)) ∧ Below w.heap.size w w' := by
  by_cases h : 0 ≤ n ∧ n ≤ 2147483647
  · rw [numS_ok n h.1 h.2]
    exact rnum_ok n h.1 h.2 w
  · rw [numS_bad n (by omega)]
    refine (rnum_bad n (by omega) w).mono ?_
    rintro e w' ⟨rfl, rfl⟩
    exact ⟨rfl, Below.refl _ _⟩
theorem ret_str {a b : ByteArray} (h : a = b) : Ending.returned (.string a) = .returned (.string b) := by rw [h]
theorem ba_ext {a b : ByteArray} (h : a.data.toList = b.data.toList) : a = b := by
  cases a; cases b; simp at h; subst h; rfl
theorem data_append (a b : ByteArray) : (a ++ b).data.toList = a.data.toList ++ b.data.toList := by simp
theorem data_size (x : ByteArray) : x.data.toList.length = x.size := by rw [Array.length_toList]; rfl

end Go.Proofs.Ytjllijoiakccpaa
