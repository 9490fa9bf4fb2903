/- The walk of MerkleNil over the seat's translation. -/
import Derived.Test.YtfepgoddoohpbaaMkF
namespace Go.Proofs.Ytfepgoddoohpbaa
open Go.RowKit

theorem none3 : ((ByteArray.mk #[]) ++ (ByteArray.mk #[]) ++ (ByteArray.mk #[])).toList.isEmpty = true := by decide +kernel
set_option maxHeartbeats 1600000 in
set_option maxRecDepth 100000 in
theorem mn_few (a : Option Addr) (ss : List ByteArray) (cap : Nat) (s : ByteArray) (hm : ss.length ≤ maxLen) (W : World) (h : StrRow W a ss) (hf : fewB ss 16 100 = false) :
    Calls Try.prog 5 #[.slice a ss.length cap, .string s] W fun e w' => e = .returned (.bool true) ∧ Below W.heap.size W w' := by
  have HF : Hid (Calls Try.prog 6 #[.slice a ss.length cap, .int .i64 16, .int .i64 100] W fun e w' => e = .returned (.bool false) ∧ w' = W) := by
    have := few_any a ss cap 16 100 hm W h
    rw [hf] at this
    exact this
  clear h hf
  go_enter Try.func5, Try.ntmps5
  go_wp2_with (first | (go_at_call 6; refine HF.out.mono ?_; rintro e w9 ⟨rfl, hw⟩; obtain rfl := hw.symm; clear hw) | (go_at_call 8; refine (awake12.go _).mono ?_; rintro e w1 ⟨rfl, hb1⟩))
  go_ret
  exact ⟨rfl, hb1⟩
set_option maxHeartbeats 1600000 in
set_option maxRecDepth 100000 in
theorem mn_long (a : Option Addr) (ss : List ByteArray) (cap : Nat) (s : ByteArray) (hm : ss.length ≤ maxLen) (W : World) (h : StrRow W a ss) (hf : fewB ss 16 100 = true) (hs : 100 < s.size) :
    Calls Try.prog 5 #[.slice a ss.length cap, .string s] W fun e w' => e = .returned (.bool true) ∧ Below W.heap.size W w' := by
  have HF : Hid (Calls Try.prog 6 #[.slice a ss.length cap, .int .i64 16, .int .i64 100] W fun e w' => e = .returned (.bool true) ∧ w' = W) := by
    have := few_any a ss cap 16 100 hm W h
    rw [hf] at this
    exact this
  have h1 : (100 : Int) < (s.size : Int) := by omega
  clear h hf
  go_enter Try.func5, Try.ntmps5
  go_wp2_with (first | (go_at_call 6; refine HF.out.mono ?_; rintro e w9 ⟨rfl, hw⟩; obtain rfl := hw.symm; clear hw) | (go_at_call 8; refine (awake12.go _).mono ?_; rintro e w1 ⟨rfl, hb1⟩))
  go_ret
  exact ⟨rfl, hb1⟩
set_option maxHeartbeats 3200000 in
set_option maxRecDepth 100000 in
theorem mn_core (a : Option Addr) (ss : List ByteArray) (cap : Nat) (s : ByteArray) (hm : ss.length ≤ maxLen) (W : World) (h : StrRow W a ss) (hf : fewB ss 16 100 = true) (hs : s.size ≤ 100) :
    Calls Try.prog 5 #[.slice a ss.length cap, .string s] W fun e w' => e = .returned (.bool true) ∧ Below W.heap.size W w' := by
  have HF : Hid (Calls Try.prog 6 #[.slice a ss.length cap, .int .i64 16, .int .i64 100] W fun e w' => e = .returned (.bool true) ∧ w' = W) := by
    have := few_any a ss cap 16 100 hm W h
    rw [hf] at this
    exact this
  have h1 : ¬ (100 : Int) < (s.size : Int) := by omega
  have hx : (ByteArray.mk #[120]).size = 1 := rfl
  have hy : (s ++ ByteArray.mk #[120]).size = s.size + 1 := by rw [ByteArray.size_append]; rfl
  have H1 : Hid (Same 10 #[.pointer none, .slice a ss.length cap] (.tuple #[.slice none 0 0, .int .i64 1])) := rows_nil _
  have H2 : Hid (Same 11 #[.pointer none, .slice a ss.length cap] (.tuple #[.string (ByteArray.mk #[]), .int .i64 1])) := root_nil _
  have H3 : Hid (Same 14 #[.pointer none, .int .i64 0, .int .i64 0, .string s, .string (s ++ ByteArray.mk #[120]), .slice none 0 0, .slice none 0 0] (.tuple #[.string (ByteArray.mk #[]), .string (ByteArray.mk #[]), .bool false])) := twin_nil _ _ _ _ _ _ (by omega) (by omega)
  have H4 : Hid (Same 15 #[.pointer none, .string s] (.string (ByteArray.mk #[]))) := leaf_nil _ (by omega)
  have H5 : Hid (Same 16 #[.pointer none, .string s, .string s] (.string (ByteArray.mk #[]))) := node_nil _ _ (by omega) (by omega)
  have H6 : Hid (Same 17 #[.pointer none, .string s] (.string (ByteArray.mk #[]))) := sum_nil _
  have H7 : Hid (Same 13 #[.pointer none, .string (ByteArray.mk #[]), .int .i64 0, .int .i64 0, .string s, .slice none 0 0] (.bool false)) := check_nil _ _ _ _ _ (by omega)
  have he := none3
  have hz : ((ByteArray.mk #[]) ++ (ByteArray.mk #[])).size = 0 := by decide +kernel
  have hz0 : (ByteArray.mk #[]).size = 0 := rfl
  clear h hf
  go_enter Try.func5, Try.ntmps5
  go_wp2_with (first | (go_at_call 6; refine HF.out.mono ?_; rintro e w9 ⟨rfl, hw⟩; obtain rfl := hw.symm; clear hw) | (go_at_call 10; refine (H1.out _).mono ?_; rintro e w9 ⟨rfl, hw⟩; obtain rfl := hw.symm; clear hw) | (go_at_call 11; refine (H2.out _).mono ?_; rintro e w9 ⟨rfl, hw⟩; obtain rfl := hw.symm; clear hw) | (go_at_call 14; refine (H3.out _).mono ?_; rintro e w9 ⟨rfl, hw⟩; obtain rfl := hw.symm; clear hw) | (go_at_call 8; refine (awake12.go _).mono ?_; rintro e w1 ⟨rfl, hb1⟩) | (go_at_call 15; refine (H4.out _).mono ?_; rintro e w9 ⟨rfl, hw⟩; obtain rfl := hw.symm; clear hw) | (go_at_call 16; refine (H5.out _).mono ?_; rintro e w9 ⟨rfl, hw⟩; obtain rfl := hw.symm; clear hw) | (go_at_call 17; refine (H6.out _).mono ?_; rintro e w9 ⟨rfl, hw⟩; obtain rfl := hw.symm; clear hw) | (go_at_call 13; refine (H7.out _).mono ?_; rintro e w9 ⟨rfl, hw⟩; obtain rfl := hw.symm; clear hw))
  go_ret
  exact ⟨rfl, hb1⟩
theorem mn_any (a : Option Addr) (ss : List ByteArray) (cap : Nat) (s : ByteArray) (hm : ss.length ≤ maxLen) (W : World) (h : StrRow W a ss) :
    Calls Try.prog 5 #[.slice a ss.length cap, .string s] W fun e w' => e = .returned (.bool true) ∧ Below W.heap.size W w' := by
  cases hf : fewB ss 16 100
  · exact mn_few a ss cap s hm W h hf
  · by_cases hs : 100 < s.size
    · exact mn_long a ss cap s hm W h hf hs
    · exact mn_core a ss cap s hm W h hf (by omega)
end Go.Proofs.Ytfepgoddoohpbaa
