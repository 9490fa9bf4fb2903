/- Contract of steeplelaw01.Few over the seat's translation. -/
import Derived.Test.YtccpbpajappckaaPOrA
namespace Go.Proofs.Ytccpbpajappckaa
open Go.RowKit

/-- Are texts no more than m, and none longer than n bytes? -/
def fewB (ss : List ByteArray) (m n : Int) : Bool := decide ((ss.length : Int) ≤ m) && ss.all fun s => decide ((s.size : Int) ≤ n)
theorem fewB_of {ss : List ByteArray} {m n : Int} (h : fewB ss m n = true) : (ss.length : Int) ≤ m ∧ ∀ s ∈ ss, (s.size : Int) ≤ n := by
  simp [fewB] at h; exact h

set_option maxHeartbeats 1000000 in
set_option maxRecDepth 100000 in
theorem few_row (b off : Nat) (ss : List ByteArray) (cap : Nat) (m n : Int) (hm : ss.length ≤ maxLen) (w : World) (hc : ∀ i, i < ss.length → w.cell? ⟨b, off + i, none⟩ = some (.string (ss.getD i ByteArray.empty))) :
    Calls Try.prog 12 #[.slice (some ⟨b, off, none⟩) ss.length cap, .int .i64 m, .int .i64 n] w fun e w' => e = .returned (.bool (fewB ss m n)) ∧ w' = w := by
  have HC : Hid (∀ i, i < ss.length → w.cell? ⟨b, off + i, none⟩ = some (.string (ss.getD i ByteArray.empty))) := hc
  clear hc
  unfold maxLen at hm
  by_cases hl : m < (ss.length : Int)
  · rw [show fewB ss m n = false by simp [fewB]; intro h; omega]
    go_enter Try.func12, Try.ntmps12
    go_wp2
    go_ret
    exact ⟨rfl, rfl⟩
  · go_enter Try.func12, Try.ntmps12
    go_wp2
    go_loop [7] (fun v => ∃ k : Nat, k ≤ ss.length ∧ v = .int .i64 k ∧ ∀ s ∈ ss.take k, (s.size : Int) ≤ n) (fun v => ss.length - (intOf v).toNat)
    case atStart => exact ⟨0, Nat.zero_le _, rfl, by simp⟩
    case round =>
      obtain ⟨k, hk, rfl, hall⟩ := hrel
      have HA : Hid (∀ s ∈ ss.take k, (s.size : Int) ≤ n) := hall
      clear hall
      by_cases hlt : k < ss.length
      · have hcell := HC.out k hlt
        have H : Hid (ss.take (k + 1) = ss.take k ++ [ss.getD k ByteArray.empty]) := take_snoc' ss k hlt
        have hmem : Hid (ss.getD k ByteArray.empty ∈ ss) := by show _ ∈ _; simp [List.getD_eq_getElem?_getD, hlt]
        generalize ss.getD k ByteArray.empty = t at *
        by_cases ht : n < (t.size : Int)
        · have hf : Hid (fewB ss m n = false) := by
            show _ = _
            cases hq : fewB ss m n
            · rfl
            · have := (fewB_of hq).2 t hmem.out; omega
          go_wp2
          go_ret
          exact ⟨by rw [hf.out]; rfl, rfl⟩
        · go_wp2
          go_round
          case rel =>
            refine ⟨k + 1, by omega, by go_num, ?_⟩
            rw [H.out]
            intro s hs
            simp at hs
            rcases hs with hs | rfl
            · exact HA.out s hs
            · omega
          case measure => simp [intOf]; omega
      · have hf : Hid (fewB ss m n = true) := by
          show _ = _
          have := HA.out
          rw [List.take_of_length_le (by omega)] at this
          simp [fewB]
          exact ⟨by omega, this⟩
        go_wp2
        go_ret
        exact ⟨by rw [hf.out]; rfl, rfl⟩
set_option maxHeartbeats 1000000 in
theorem few_nil (a : Option Addr) (cap : Nat) (m n : Int) (w : World) : Calls Try.prog 12 #[.slice a 0 cap, .int .i64 m, .int .i64 n] w fun e w' => e = .returned (.bool (fewB [] m n)) ∧ w' = w := by
  by_cases hl : m < 0
  · rw [show fewB [] m n = false by simp [fewB]; omega]
    go_enter Try.func12, Try.ntmps12
    go_wp2
    go_ret
    exact ⟨rfl, rfl⟩
  · rw [show fewB [] m n = true by simp [fewB]; omega]
    go_enter Try.func12, Try.ntmps12
    go_wp2
    go_rounds 1
    go_ret
    exact ⟨rfl, rfl⟩
theorem few_any (a : Option Addr) (ss : List ByteArray) (cap : Nat) (m n : Int) (hm : ss.length ≤ maxLen) (w : World) (h : StrRow w a ss) :
    Calls Try.prog 12 #[.slice a ss.length cap, .int .i64 m, .int .i64 n] w fun e w' => e = .returned (.bool (fewB ss m n)) ∧ w' = w := by
  rcases h with rfl | ⟨b, off, rfl, hb, hcell⟩
  · exact few_nil a cap m n w
  · exact few_row b off ss cap m n hm w hcell
theorem StrRow.below {w w' : World} {a : Option Addr} {ss : List ByteArray} (h : StrRow w a ss) (k : Below w.heap.size w w') : StrRow w' a ss := by
  rcases h with h | ⟨b, off, rfl, hb, hcell⟩
  · exact .inl h
  · refine .inr ⟨b, off, rfl, Nat.lt_of_lt_of_le hb k.size, fun i hi => ?_⟩
    rw [k.cell (p := ⟨b, off + i, none⟩) hb]
    exact hcell i hi
end Go.Proofs.Ytccpbpajappckaa
