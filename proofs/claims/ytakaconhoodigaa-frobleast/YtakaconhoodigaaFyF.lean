/- steeplelaw33.FrobLeast gives true, whatever the input. -/
import Derived.Test.YtakaconhoodigaaFyE
import Derived.Test.YtakaconhoodigaaFrQ
namespace Go.Proofs.Ytakaconhoodigaa
open Go.RowKit
open Cb
open Tw (pm)
open Fr

theorem own_level (a : Nat × Nat) (la : lt2 a) : ∃ m : Nat, lvl a.1 a.2 = (m : Int) ∧ m < 8 ∧ ofE m a ∧ ∀ j, j < m → ¬ ofE j a := by
  have key : ∀ m : Nat, m < 7 → a.1 = 0 → a.2 < 2 ^ 2 ^ m → (0 < m → 2 ^ 2 ^ (m - 1) ≤ a.2) → ofE m a ∧ ∀ j, j < m → ¬ ofE j a := fun m hm h0 hl hg => by
    refine ⟨(ofB_iff m a.1 a.2 (by omega)).2 (Or.inr ⟨h0, hl⟩), fun j hj ho => ?_⟩
    rcases (ofB_iff j a.1 a.2 (by omega)).1 ho with h | ⟨_, h⟩
    · omega
    · have h1 : 2 ^ 2 ^ j ≤ 2 ^ 2 ^ (m - 1) := Nat.pow_le_pow_right (by decide) (Nat.pow_le_pow_right (n := 2) (by decide) (by omega))
      have := hg (by omega)
      omega
  unfold lvl
  by_cases h0 : a.1 = 0
  · rw [if_neg (by simpa using h0)]
    by_cases g0 : a.2 < 2
    · rw [if_pos g0]; exact ⟨0, rfl, by decide, key 0 (by decide) h0 g0 (fun h => absurd h (by decide))⟩
    · rw [if_neg g0]
      by_cases g1 : a.2 < 4
      · rw [if_pos g1]; exact ⟨1, rfl, by decide, key 1 (by decide) h0 g1 (fun _ => Nat.le_of_not_lt g0)⟩
      · rw [if_neg g1]
        by_cases g2 : a.2 < 16
        · rw [if_pos g2]; exact ⟨2, rfl, by decide, key 2 (by decide) h0 g2 (fun _ => Nat.le_of_not_lt g1)⟩
        · rw [if_neg g2]
          by_cases g3 : a.2 < 256
          · rw [if_pos g3]; exact ⟨3, rfl, by decide, key 3 (by decide) h0 g3 (fun _ => Nat.le_of_not_lt g2)⟩
          · rw [if_neg g3]
            by_cases g4 : a.2 < 65536
            · rw [if_pos g4]; exact ⟨4, rfl, by decide, key 4 (by decide) h0 g4 (fun _ => Nat.le_of_not_lt g3)⟩
            · rw [if_neg g4]
              by_cases g5 : a.2 < 4294967296
              · rw [if_pos g5]; exact ⟨5, rfl, by decide, key 5 (by decide) h0 g5 (fun _ => Nat.le_of_not_lt g4)⟩
              · rw [if_neg g5]; exact ⟨6, rfl, by decide, key 6 (by decide) h0 la.2 (fun _ => Nat.le_of_not_lt g5)⟩
  · rw [if_pos (by simpa using h0)]
    refine ⟨7, rfl, by decide, (ofB_iff 7 a.1 a.2 (by decide)).2 (Or.inl rfl), fun j hj ho => ?_⟩
    rcases (ofB_iff j a.1 a.2 (by omega)).1 ho with h | ⟨h, _⟩
    · omega
    · exact h0 h
theorem fz_any (l : Int) (a : Nat × Nat) (la : lt2 a) : Ret 8 #[.int .i64 l, .agg #[.int .u64 (a.1 : Int), .int .u64 (a.2 : Int)]] (.bool true) := by
  have HO := rof_any l a.1 a.2 la.1 la.2
  cases h : ofB l (a.1 : Int) (a.2 : Int)
  · rw [h] at HO
    exact fz_no l a (least_no l a la h) HO
  · rw [h] at HO
    obtain ⟨k, hk, rfl⟩ : ∃ k : Nat, k < 8 ∧ l = (k : Int) := by
      rcases level_cases l (levelB_of h) with rfl | rfl | rfl | rfl | rfl | rfl | rfl | rfl
      · exact ⟨0, by decide, rfl⟩
      · exact ⟨1, by decide, rfl⟩
      · exact ⟨2, by decide, rfl⟩
      · exact ⟨3, by decide, rfl⟩
      · exact ⟨4, by decide, rfl⟩
      · exact ⟨5, by decide, rfl⟩
      · exact ⟨6, by decide, rfl⟩
      · exact ⟨7, by decide, rfl⟩
    obtain ⟨m, hlv, hm8, om, hno⟩ := own_level a la
    have hm : m ≤ k := by
      rcases Nat.lt_or_ge k m with hkm | hkm
      · exact absurd h (hno k hkm)
      · exact hkm
    have hM : 2 ^ m ≤ 128 := Nat.le_trans (Nat.pow_le_pow_right (by decide) (show m ≤ 7 by omega)) (by decide)
    have hM0 : 0 < 2 ^ m := Nat.two_pow_pos m
    have HLv := rlevel_any a.1 a.2 la.1 la.2
    rw [hlv] at HLv
    have hcs : cfl (cjs m 1 hm8 ⟨a, la, om⟩ (2 ^ m)) = lst a (2 ^ m) := by
      rw [cfl_prd]
      unfold lst
      congr 1
      simp [cjs, cl, cj]
    refine fz_yes (k : Int) a (2 ^ m) (2 ^ m + 1) (lst a (2 ^ m)) rfl hM (lst_len a _) (fun j => lst_bit hm8 la om j) (lst_zero _ hM0) (m : Int) la (fun W => ?_) HO (fun W => rleast33 k m _ _ hk hm rfl rfl a la om hno W) HLv (rtwoF m (by omega))
    refine least_bits k hk a la h m (fun x => Fr.of_up hm hk x.2.2) (cjs m 1 hm8 ⟨a, la, om⟩ (2 ^ m)) (2 ^ m + 1) (by simp [cjs]) (by omega) (lst a (2 ^ m)) hcs (lst_len a _) (fun j => lst_bit hm8 la om j) (fun w b1 b2 b3 hc => ?_) W
    rw [hlv] at hc
    exact conj1_ok (3 - 1) (by decide) b1 b2 b3 m 0 m 1 (2 ^ m) hm8 (Nat.zero_le _) rfl rfl rfl ⟨a, la, om⟩ w hc
end Go.Proofs.Ytakaconhoodigaa
