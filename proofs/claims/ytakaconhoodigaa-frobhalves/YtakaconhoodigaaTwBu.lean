/- Contracts of tower.Bit, Bits, Split and Join, and of steepleref02.Bit and Level, over the seat's translation. -/
import Derived.Test.YtakaconhoodigaaPTwBa
import Derived.Test.YtakaconhoodigaaPRfF
namespace Go.Proofs.Ytakaconhoodigaa
open Go.RowKit
open Tw (px pm)

/-- The pair with the bit n alone: none, where there is no such bit. -/
def bv (n : Int) : Nat × Nat := if 0 ≤ n ∧ n ≤ 127 then Tw.bitp n.toNat else (0, 0)
set_option maxHeartbeats 400000 in
theorem bit_low (n : Nat) (hn : n < 64) : Ret 42 #[.int .i64 (n : Int)] (.agg #[.int .u64 0, .int .u64 ((2 ^ n : Nat) : Int)]) := by
  intro W
  go_enter Try.func42, Try.ntmps42
  go_wp2
  refine bodyPost_ret (v := .agg #[.int .u64 0, .int .u64 (IntKind.u64.wrap (2 ^ n))]) (by simp [results, Try.results42, go_sem]) rfl ⟨by rw [wrap_pow n hn], ?_⟩
  go_grown
set_option maxHeartbeats 400000 in
theorem bit_high (n : Nat) (hn : 64 ≤ n) (hn2 : n < 128) : Ret 42 #[.int .i64 (n : Int)] (.agg #[.int .u64 ((2 ^ (n - 64) : Nat) : Int), .int .u64 0]) := by
  intro W
  go_enter Try.func42, Try.ntmps42
  go_wp2
  refine bodyPost_ret (v := .agg #[.int .u64 (IntKind.u64.wrap (2 ^ (n - 64))), .int .u64 0]) (by simp [results, Try.results42, go_sem]) rfl ⟨by rw [wrap_pow (n - 64) (by omega)], ?_⟩
  go_grown
set_option maxHeartbeats 800000 in
theorem bit_none (n : Int) (h : ¬ (0 ≤ n ∧ n ≤ 127)) : Ret 42 #[.int .i64 n] (.agg #[.int .u64 0, .int .u64 0]) := by
  intro W
  by_cases h0 : 0 ≤ n
  · have h7 : ¬ n ≤ 127 := fun h7 => h ⟨h0, h7⟩
    clear h
    go_enter Try.func42, Try.ntmps42
    go_wp2
    refine bodyPost_ret (v := .agg #[.int .u64 0, .int .u64 0]) (by simp [results, Try.results42, go_sem]) rfl ⟨rfl, ?_⟩
    go_grown
  · clear h
    go_enter Try.func42, Try.ntmps42
    go_wp2
    refine bodyPost_ret (v := .agg #[.int .u64 0, .int .u64 0]) (by simp [results, Try.results42, go_sem]) rfl ⟨rfl, ?_⟩
    go_grown
set_option maxHeartbeats 800000 in
theorem rbit_none (n : Int) (h : ¬ (0 ≤ n ∧ n ≤ 127)) : Ret 48 #[.int .i64 n] (.agg #[.int .u64 0, .int .u64 0]) := by
  intro W
  by_cases h0 : 0 ≤ n
  · have h7 : ¬ n ≤ 127 := fun h7 => h ⟨h0, h7⟩
    clear h
    go_enter Try.func48, Try.ntmps48
    go_wp2
    refine bodyPost_ret (v := .agg #[.int .u64 0, .int .u64 0]) (by simp [results, Try.results48, go_sem]) rfl ⟨rfl, ?_⟩
    go_grown
  · clear h
    go_enter Try.func48, Try.ntmps48
    go_wp2
    refine bodyPost_ret (v := .agg #[.int .u64 0, .int .u64 0]) (by simp [results, Try.results48, go_sem]) rfl ⟨rfl, ?_⟩
    go_grown
theorem bit_any (n : Int) : Ret 42 #[.int .i64 n] (.agg #[.int .u64 ((bv n).1 : Int), .int .u64 ((bv n).2 : Int)]) := by
  unfold bv
  by_cases h : 0 ≤ n ∧ n ≤ 127
  · rw [if_pos h]
    obtain ⟨m, rfl⟩ : ∃ m : Nat, n = (m : Int) := ⟨n.toNat, by omega⟩
    rw [Int.toNat_natCast]
    unfold Tw.bitp
    by_cases h2 : m < 64
    · rw [if_pos h2]; exact bit_low m h2
    · rw [if_neg h2]; exact bit_high m (by omega) (by omega)
  · rw [if_neg h]; exact bit_none n h
theorem rbit_any (n : Int) : Ret 48 #[.int .i64 n] (.agg #[.int .u64 ((bv n).1 : Int), .int .u64 ((bv n).2 : Int)]) := by
  unfold bv
  by_cases h : 0 ≤ n ∧ n ≤ 127
  · rw [if_pos h]
    obtain ⟨m, rfl⟩ : ∃ m : Nat, n = (m : Int) := ⟨n.toNat, by omega⟩
    rw [Int.toNat_natCast]
    unfold Tw.bitp
    by_cases h2 : m < 64
    · rw [if_pos h2]; exact rbit_low m h2
    · rw [if_neg h2]; exact rbit_high m (by omega) (by omega)
  · rw [if_neg h]; exact rbit_none n h

set_option maxHeartbeats 2000000 in
theorem rlevel_core (h l : Nat) (r : Int) (oB : Nat → Bool)
    (HO : Hid (∀ n : Nat, n < 8 → Ret 11 #[.int .i64 (n : Int), .agg #[.int .u64 (h : Int), .int .u64 (l : Int)]] (.bool (oB n))))
    (HT : Hid (∀ n : Nat, n ≤ 7 → (∀ m, m < n → oB m = false) → (oB n = true ∨ n = 7) → (n : Int) = r)) :
    Ret 32 #[.agg #[.int .u64 (h : Int), .int .u64 (l : Int)]] (.int .i64 r) := by
  intro W
  go_enter Try.func32, Try.ntmps32
  go_wp2_with fail
  go_loopw [3] (fun u wr => ∃ n : Nat, n ≤ 7 ∧ u = .int .i64 n ∧ Hid (∀ m, m < n → oB m = false) ∧ El wr W.heap.size h l ∧ Below W.heap.size W wr) (fun u _ => 7 - (intOf u).toNat)
  case atStart => exact ⟨0, Nat.zero_le _, rfl, fun m hm => by omega, ⟨by simp [go_sem], by simp [go_sem]⟩, by go_grown⟩
  case round =>
    obtain ⟨n, hn, rfl, HM, hE, hD⟩ := hrel
    have HE : Hid (El wr W.heap.size h l) := hE
    have HD : Hid (Below W.heap.size W wr) := hD
    have e1 := hE.hi
    have e0 := hE.lo
    have H1 := HO.out n (by omega)
    clear hE hD
    cases ho : oB n
    · rw [ho] at H1
      by_cases h7 : n = 7
      · have hr : Hid ((7 : Int) = r) := by have := HT.out n hn HM.out (.inr h7); rw [h7] at this; exact this
        subst h7
        go_wp2_with fail
        refine (H1.go _).mono ?_
        rintro e w4 ⟨rfl, hb4⟩
        have HD4 : Hid (Below W.heap.size W w4) := HD.out.trans (hb4.mono HD.out.size)
        clear hb4 e1 e0 HE HD HM
        go_wp2
        go_ret
        exact ⟨by rw [← hr.out]; rfl, HD4.out⟩
      · have hlt : (n : Int) < 7 := by omega
        have HM2 : Hid (∀ m, m < n + 1 → oB m = false) := fun m hm => by
          rcases Nat.lt_or_ge m n with h2 | h2
          · exact HM.out m h2
          · rw [show m = n by omega]; exact ho
        go_wp2_with fail
        refine (H1.go _).mono ?_
        rintro e w4 ⟨rfl, hb4⟩
        have HD4 : Hid (Below W.heap.size W w4) := HD.out.trans (hb4.mono HD.out.size)
        have HE4 : Hid (El w4 W.heap.size h l) := HE.out.below hb4
        clear hb4 e1 e0 HE HD HM
        go_wp2
        exact ⟨⟨n + 1, by omega, by simp, HM2.out, HE4.out, HD4.out⟩, by simp [intOf]; omega⟩
    · rw [ho] at H1
      have hr : Hid ((n : Int) = r) := HT.out n hn HM.out (.inl ho)
      go_wp2_with fail
      refine (H1.go _).mono ?_
      rintro e w4 ⟨rfl, hb4⟩
      have HD4 : Hid (Below W.heap.size W w4) := HD.out.trans (hb4.mono HD.out.size)
      clear hb4 e1 e0 HE HD HM
      go_wp2
      go_ret
      exact ⟨by rw [← hr.out]; rfl, HD4.out⟩
theorem rlevel_any (h l : Nat) (hh : h < 2 ^ 64) (hl : l < 2 ^ 64) : Ret 32 #[.agg #[.int .u64 (h : Int), .int .u64 (l : Int)]] (.int .i64 (lvl h l)) := by
  refine rlevel_core h l _ (fun n => ofB (n : Int) h l) (fun n _ => rof_any (n : Int) h l hh hl) (fun n hn H1 H2 => ?_)
  have I : ∀ m : Nat, m < 8 → (ofB (m : Int) h l = true ↔ m = 7 ∨ (h = 0 ∧ l < 2 ^ 2 ^ m)) := fun m hm => ofB_iff m h l hm
  have N : ∀ m, m < n → ¬ (m = 7 ∨ (h = 0 ∧ l < 2 ^ 2 ^ m)) := fun m hm hc => by
    have h1 : ofB (m : Int) h l = false := H1 m hm
    rw [(I m (by omega)).2 hc] at h1
    cases h1
  have Y : n = 7 ∨ (h = 0 ∧ l < 2 ^ 2 ^ n) := by
    rcases H2 with h2 | h2
    · exact (I n (by omega)).1 h2
    · exact .inl h2
  unfold lvl
  by_cases h0 : h = 0
  · rw [if_neg (by simpa using h0)]
    have n0 := N 0; have n1 := N 1; have n2 := N 2; have n3 := N 3; have n4 := N 4; have n5 := N 5; have n6 := N 6
    simp only [h0, true_and, Nat.reducePow] at n0 n1 n2 n3 n4 n5 n6
    have hn' : n = 0 ∨ n = 1 ∨ n = 2 ∨ n = 3 ∨ n = 4 ∨ n = 5 ∨ n = 6 ∨ n = 7 := by omega
    rcases hn' with rfl | rfl | rfl | rfl | rfl | rfl | rfl | rfl
    all_goals
      simp only [h0, true_and, Nat.reducePow] at Y
      repeat' split
      all_goals omega
  · rw [if_pos h0]
    rcases Y with rfl | ⟨h1, _⟩
    · rfl
    · exact absurd h1 h0
end Go.Proofs.Ytakaconhoodigaa
