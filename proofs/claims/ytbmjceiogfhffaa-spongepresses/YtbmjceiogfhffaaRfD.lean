/- Contracts of steepleref01.bit and steepleref01.Of over the seat's translation. -/
import Derived.Test.YtbmjceiogfhffaaRfB
import Derived.Test.YtbmjceiogfhffaaTwPw
import Derived.Test.YtbmjceiogfhffaaTwPr
namespace Go.Proofs.Ytbmjceiogfhffaa
open Go.RowKit

set_option maxHeartbeats 400000 in
theorem bit1_low (h l n : Nat) (hl : l < 2 ^ 64) (hn : n < 64) : Ret 70 #[.agg #[.int .u64 (h : Int), .int .u64 (l : Int)], .int .i64 (n : Int)] (.int .u64 ((l / 2 ^ n % 2 : Nat) : Int)) := by
  intro W
  go_enter Try.func70, Try.ntmps70
  go_wp2
  go_ret
  exact ⟨by simpa using bit_nat l n hl, by go_grown⟩
set_option maxHeartbeats 400000 in
theorem bit1_high (h l n : Nat) (hh : h < 2 ^ 64) (hn : 64 ≤ n) (hn2 : n < 128) : Ret 70 #[.agg #[.int .u64 (h : Int), .int .u64 (l : Int)], .int .i64 (n : Int)] (.int .u64 ((h / 2 ^ (n - 64) % 2 : Nat) : Int)) := by
  intro W
  go_enter Try.func70, Try.ntmps70
  go_wp2
  go_ret
  exact ⟨by simpa using bit_nat h (n - 64) hh, by go_grown⟩
/-- The bit n of a pair, as a number. -/
def bitN (h l n : Nat) : Nat := if n < 64 then l / 2 ^ n % 2 else h / 2 ^ (n - 64) % 2
theorem bit1_any (h l n : Nat) (hh : h < 2 ^ 64) (hl : l < 2 ^ 64) (hn : n < 128) : Ret 70 #[.agg #[.int .u64 (h : Int), .int .u64 (l : Int)], .int .i64 (n : Int)] (.int .u64 ((bitN h l n : Nat) : Int)) := by
  unfold bitN
  by_cases h1 : n < 64
  · rw [if_pos h1]; exact bit1_low h l n hl h1
  · rw [if_neg h1]; exact bit1_high h l n hh (by omega) hn

set_option maxHeartbeats 4000000 in
set_option maxRecDepth 100000 in
theorem rof_core (l : Int) (K : Nat) (h l0 : Nat) (r : Bool) (hb : Nat → Nat) (hK : (l = 0 ∧ K = 1) ∨ (l = 1 ∧ K = 2) ∨ (l = 2 ∧ K = 4) ∨ (l = 3 ∧ K = 8) ∨ (l = 4 ∧ K = 16) ∨ (l = 5 ∧ K = 32) ∨ (l = 6 ∧ K = 64) ∨ (l = 7 ∧ K = 128))
    (HB : Hid (∀ n : Nat, n < 128 → Ret 70 #[.agg #[.int .u64 (h : Int), .int .u64 (l0 : Int)], .int .i64 (n : Int)] (.int .u64 ((hb n : Nat) : Int))))
    (HF : Hid (∀ n : Nat, K ≤ n → n < 128 → hb n = 1 → r = false)) (HT : Hid ((∀ n : Nat, K ≤ n → n < 128 → hb n ≠ 1) → r = true)) :
    Ret 53 #[.int .i64 l, .agg #[.int .u64 (h : Int), .int .u64 (l0 : Int)]] (.bool r) := by
  intro W
  rcases hK with ⟨rfl, rfl⟩ | ⟨rfl, rfl⟩ | ⟨rfl, rfl⟩ | ⟨rfl, rfl⟩ | ⟨rfl, rfl⟩ | ⟨rfl, rfl⟩ | ⟨rfl, rfl⟩ | ⟨rfl, rfl⟩
  all_goals
    go_enter Try.func53, Try.ntmps53
    go_wp2_with fail
    go_loopw [6] (fun u wr => ∃ n : Nat, n ≤ 128 ∧ u = .int .i64 n ∧ Hid (∃ K : Nat, True ∧ K ≤ n ∧ (∀ m : Nat, K ≤ m → m < n → hb m ≠ 1) ∧ (∀ n : Nat, K ≤ n → n < 128 → hb n = 1 → r = false) ∧ ((∀ n : Nat, K ≤ n → n < 128 → hb n ≠ 1) → r = true)) ∧ El wr W.heap.size h l0 ∧ Below W.heap.size W wr) (fun u _ => 128 - (intOf u).toNat)
    case atStart =>
      refine ⟨_, ?_, rfl, ⟨_, trivial, Nat.le_refl _, fun m h1 h2 => by omega, HF.out, HT.out⟩, ⟨by simp [go_sem], by simp [go_sem]⟩, by go_grown⟩
      decide
    case round =>
      obtain ⟨n, hn, rfl, HK, hE, hD⟩ := hrel
      by_cases hn2 : n < 128
      · have HD : Hid (Below W.heap.size W wr) := hD
        have HE : Hid (El wr W.heap.size h l0) := hE
        have e1 := hE.hi
        have e0 := hE.lo
        have H1 := HB.out n hn2
        clear hE hD
        by_cases h1 : hb n = 1
        · rw [h1] at H1
          have H2 : Ret 70 #[.agg #[.int .u64 (h : Int), .int .u64 (l0 : Int)], .int .i64 (n : Int)] (.int .u64 1) := H1
          have hr : r = false := by obtain ⟨K, _, hk, _, hf, _⟩ := HK.out; exact hf n hk hn2 h1
          subst hr
          clear H1 HK
          go_wp2_with fail
          refine (H2.go _).mono ?_
          rintro e w4 ⟨rfl, hb4⟩
          have HD4 : Hid (Below W.heap.size W w4) := HD.out.trans (hb4.mono HD.out.size)
          clear hb4 e1 e0 HD HE
          go_wp2
          go_ret
          exact ⟨rfl, HD4.out⟩
        · have hne : ¬ ((hb n : Nat) : Int) = 1 := by omega
          have HK2 : Hid (∃ K : Nat, True ∧ K ≤ n + 1 ∧ (∀ m : Nat, K ≤ m → m < n + 1 → hb m ≠ 1) ∧ (∀ n : Nat, K ≤ n → n < 128 → hb n = 1 → r = false) ∧ ((∀ n : Nat, K ≤ n → n < 128 → hb n ≠ 1) → r = true)) := by
            obtain ⟨K, _, hk, ha, hf, ht⟩ := HK.out
            exact ⟨K, trivial, by omega, fun m h2 h3 => by rcases Nat.lt_or_ge m n with h4 | h4; exact ha m h2 h4; rw [show m = n by omega]; exact h1, hf, ht⟩
          clear HK h1
          go_wp2_with fail
          refine (H1.go _).mono ?_
          rintro e w4 ⟨rfl, hb4⟩
          have HD4 : Hid (Below W.heap.size W w4) := HD.out.trans (hb4.mono HD.out.size)
          have HE4 : Hid (El w4 W.heap.size h l0) := HE.out.below hb4
          clear hb4 e1 e0 HD HE
          go_wp2
          exact ⟨⟨n + 1, hn2, by simp, HK2.out, HE4.out, HD4.out⟩, by simp [intOf]; omega⟩
      · obtain rfl : n = 128 := by omega
        have hr : r = true := by obtain ⟨K, _, hk, ha, _, ht⟩ := HK.out; exact ht ha
        subst hr
        have HD : Hid (Below W.heap.size W wr) := hD
        clear hE hD HK
        go_wp2
        go_ret
        exact ⟨rfl, HD.out⟩
end Go.Proofs.Ytbmjceiogfhffaa
