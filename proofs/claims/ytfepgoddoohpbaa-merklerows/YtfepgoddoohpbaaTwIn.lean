/- The inverse as a power; contracts of tower.Inv and Pow for what is not of the level, and of steepleref02.Inv and Pow. -/
import Derived.Test.YtfepgoddoohpbaaRfG
import Derived.Test.YtfepgoddoohpbaaTwX
import Derived.Test.YtfepgoddoohpbaaTwPx
namespace Go.Proofs.Ytfepgoddoohpbaa
open Go.RowKit
namespace Tw
theorem pow_zero' (k n : Nat) : pow k (zero k) (n + 1) = zero k := by
  show mul k (pow k (zero k) n) (zero k) = _
  rw [mul_zero]
theorem pow_inv (k N : Nat) (d : T k) (hN : 2 < N) (h : pow k d N = d) : pow k d (N - 2) = inv k d := by
  by_cases h0 : d = zero k
  · subst h0
    rw [show N - 2 = N - 3 + 1 by omega, pow_zero', inv_zero]
  · have e1 : mul k (pow k d (N - 1)) d = d := by
      rw [show N = N - 1 + 1 by omega] at h
      exact h
    have e2 : pow k d (N - 1) = one k := by
      have e3 : mul k (mul k (pow k d (N - 1)) d) (inv k d) = one k := by rw [e1, field k d h0]
      rw [mul_assoc, field k d h0, mul_one] at e3
      exact e3
    refine inv_unique ?_
    rw [mul_comm]
    rw [show N - 1 = N - 2 + 1 by omega] at e2
    exact e2
theorem pp_inv {k xh xl : Nat} (hk : k < 8) (h0 : 1 ≤ k) (h1 : xh < 2 ^ 64) (h2 : xl < 2 ^ 64) (h : k = 7 ∨ (xh = 0 ∧ xl < 2 ^ 2 ^ k)) : pph xh xl (2 ^ 2 ^ k - 2) = ivh xh xl ∧ ppl xh xl (2 ^ 2 ^ k - 2) = ivl xh xl := by
  refine d7_inj (pph_lt _ _ _) (ppl_lt _ _ _) (ivh_lt _ _) (ivl_lt _ _) ?_
  rw [d7_pp, d7_iv]
  have h2k : 2 ^ 1 ≤ 2 ^ k := Nat.pow_le_pow_right (by decide) h0
  have h4 : 2 ^ 2 ≤ 2 ^ 2 ^ k := Nat.pow_le_pow_right (by decide) h2k
  refine pow_inv 7 (2 ^ 2 ^ k) _ (by omega) ?_
  rw [← sqn_pow, ← d7_sqp, sqp_back hk h1 h2 h]
theorem iv_bit {al : Nat} (h : al < 2) : ivh 0 al = 0 ∧ ivl 0 al = al := by
  refine d7_inj (ivh_lt _ _) (ivl_lt _ _) (by decide) (by omega) ?_
  rw [d7_iv]
  have : al = 0 ∨ al = 1 := by omega
  rcases this with rfl | rfl
  · rw [d7_zero, inv_zero]
  · rw [d7_one]
    exact (inv_unique (mul_one 7 _)).symm
end Tw

/-- The inverse in a level: nothing, if it is not of it. -/
def invv (l : Int) (a : Nat × Nat) : Nat × Nat := if ofB l a.1 a.2 = true then (Tw.ivh a.1 a.2, Tw.ivl a.1 a.2) else (0, 0)
def powv (l : Int) (a : Nat × Nat) (n : Nat) : Nat × Nat := if ofB l a.1 a.2 = true then (Tw.pph a.1 a.2 n, Tw.ppl a.1 a.2 n) else (0, 0)
theorem invv_lt (l : Int) (a : Nat × Nat) : (invv l a).1 < 2 ^ 64 ∧ (invv l a).2 < 2 ^ 64 := by
  unfold invv
  split
  · exact ⟨Tw.ivh_lt _ _, Tw.ivl_lt _ _⟩
  · exact ⟨Nat.two_pow_pos 64, Nat.two_pow_pos 64⟩
set_option maxHeartbeats 400000 in
theorem inv_no (l : Int) (ah al : Nat) (HO : Ret 41 #[.int .i64 l, .agg #[.int .u64 (ah : Int), .int .u64 (al : Int)]] (.bool false)) :
    Ret 30 #[.int .i64 l, .agg #[.int .u64 (ah : Int), .int .u64 (al : Int)]] (.agg #[.int .u64 0, .int .u64 0]) := by
  intro W
  go_enter Try.func30, Try.ntmps30
  go_wp2_with fail
  refine (HO.go _).mono ?_
  rintro e w1 ⟨rfl, hb1⟩
  have R : Ew w1 (W.heap.size + 1) 0 0 := Ew.below ⟨⟨by simp [go_sem], by simp [go_sem]⟩, by simp [go_sem], by simp [go_sem]⟩ hb1
  have D : Below W.heap.size W w1 := (((Below.refl _ _).alloc (Nat.le_refl _) _).alloc (by simp) _).trans (hb1.mono (by simp <;> omega))
  obtain ⟨⟨r1, r0⟩, f1, f0⟩ := R
  clear hb1
  go_wp2
  refine bodyPost_ret (v := .agg #[.int .u64 0, .int .u64 0]) (by simp [results, Try.results30, go_sem, *]) rfl ⟨rfl, ?_⟩
  exact below2 D (by omega) _ _
theorem inv_any (l : Int) (a : Nat × Nat) (h1 : a.1 < 2 ^ 64) (h2 : a.2 < 2 ^ 64) :
    Ret 30 #[.int .i64 l, .agg #[.int .u64 (a.1 : Int), .int .u64 (a.2 : Int)]] (.agg #[.int .u64 ((invv l a).1 : Int), .int .u64 ((invv l a).2 : Int)]) := by
  have HA := of_ret l a.1 a.2 h2
  unfold invv
  cases ha : ofB l a.1 a.2
  · rw [ha] at HA; rw [if_neg (by decide)]; exact inv_no l _ _ HA
  · rw [if_pos rfl]; exact inv_of l a.1 a.2 ha h1 h2
end Go.Proofs.Ytfepgoddoohpbaa
