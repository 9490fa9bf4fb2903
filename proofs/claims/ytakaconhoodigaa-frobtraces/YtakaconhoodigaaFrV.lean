/- steeplelaw33.FrobTraces gives true, whatever the input. -/
import Derived.Test.YtakaconhoodigaaFrU
namespace Go.Proofs.Ytakaconhoodigaa
open Go.RowKit
open Cb
open Tw (pm)
open Fr

theorem vls_cjs {k : Nat} (hk : k < 8) (M N : Nat) (a : Ek k) : vls33 (cjs k M hk a N) = rls a.1 M N := by
  simp [vls33, cjs, rls, cj]
theorem fr_any (l t : Int) (a : Nat × Nat) (la : lt2 a) : Ret 4 #[.int .i64 l, .int .i64 t, .agg #[.int .u64 (a.1 : Int), .int .u64 (a.2 : Int)]] (.bool true) := by
  have HF := rfits33 l t a la
  cases h : ovB l t a
  · rw [h] at HF
    exact fr_no l t a (0, 0) (0, 0) [] (fun W => conjs_core 7 l t a [] (by simp) (fun w b1 b2 b3 hc => conj1_none (3 - 1) (by omega) b1 b2 b3 7 l t a la h w hc) W) (trace_none l t a la h) (norm_none l t a la h) HF rfl rfl rfl
  · rw [h] at HF
    have h' := h
    unfold ovB at h'
    simp only [Bool.and_eq_true, decide_eq_true_eq] at h'
    obtain ⟨ho, ht0, htl⟩ := h'
    obtain ⟨k, hk, rfl⟩ : ∃ k : Nat, k < 8 ∧ l = (k : Int) := by
      rcases level_cases l (levelB_of ho) with rfl | rfl | rfl | rfl | rfl | rfl | rfl | rfl
      · exact ⟨0, by decide, rfl⟩
      · exact ⟨1, by decide, rfl⟩
      · exact ⟨2, by decide, rfl⟩
      · exact ⟨3, by decide, rfl⟩
      · exact ⟨4, by decide, rfl⟩
      · exact ⟨5, by decide, rfl⟩
      · exact ⟨6, by decide, rfl⟩
      · exact ⟨7, by decide, rfl⟩
    obtain ⟨j, rfl⟩ : ∃ j : Nat, t = (j : Int) := ⟨t.toNat, by omega⟩
    have hj : j ≤ k := by omega
    have lT := lt_tn mon_add la k j
    have lU := lt_tn mon_mul la k j
    have T1 := trace_ok k j hk hj ⟨a, la, ho⟩
    have N1 := norm_ok k j hk hj ⟨a, la, ho⟩
    rw [trl_tn] at T1
    rw [nrl_tn] at N1
    have V1 := of_ret (j : Int) (tn xa (0, 0) k j a).1 (tn xa (0, 0) k j a).2 lT.2
    rw [show ofB (j : Int) ((tn xa (0, 0) k j a).1 : Int) ((tn xa (0, 0) k j a).2 : Int) = true from of_tn mon_add goes_add hk hj la ho] at V1
    have V2 := of_ret (j : Int) (tn pm (0, 1) k j a).1 (tn pm (0, 1) k j a).2 lU.2
    rw [show ofB (j : Int) ((tn pm (0, 1) k j a).1 : Int) ((tn pm (0, 1) k j a).2 : Int) = true from of_tn mon_mul goes_mul hk hj la ho] at V2
    have hN : 2 ^ (k - j) ≤ 128 := Nat.le_trans (Nat.pow_le_pow_right (by decide) (show k - j ≤ 7 by omega)) (by decide)
    refine fr_ok (k : Int) (j : Int) a _ _ (rls a (2 ^ j) (2 ^ (k - j))) (by rw [rls_len]; omega) (fun W => ?_) T1 N1 HF (fun W => ?_) (rtrace33 k j hk hj a la) (rnorm33 k j hk hj a la) V1 V2
    · have := conjs_core k (k : Int) (j : Int) a (cjs k (2 ^ j) hk ⟨a, la, ho⟩ (2 ^ (k - j))) (by simp [cjs]; omega) (fun w b1 b2 b3 hc => conj1_ok (3 - 1) (by omega) b1 b2 b3 k j (k - j) _ _ hk hj rfl rfl rfl ⟨a, la, ho⟩ w hc) W
      rw [vls_cjs, show (cjs k (2 ^ j) hk ⟨a, la, ho⟩ (2 ^ (k - j))).length = (rls a (2 ^ j) (2 ^ (k - j))).length by rw [rls_len]; simp [cjs]] at this
      exact this
    · have := rconj33 k j (k - j) _ _ hk hj rfl rfl rfl a la W
      rw [rls_len]
      exact this
end Go.Proofs.Ytakaconhoodigaa
