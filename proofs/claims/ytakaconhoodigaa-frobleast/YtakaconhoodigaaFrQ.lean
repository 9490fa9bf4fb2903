/- Traces go over sums and factors of the level below, norms over products: no Go in sight. -/
import Derived.Test.YtakaconhoodigaaFrM
namespace Go.Proofs.Ytakaconhoodigaa
open Cb
open Tw (pm)
namespace Fr
theorem of_up {j k : Nat} (hj : j ≤ k) (hk : k < 8) {c : Nat × Nat} (h : ofE j c) : ofE k c := by
  refine (ofB_iff k c.1 c.2 hk).2 ?_
  rcases (ofB_iff j c.1 c.2 (by omega)).1 h with h7 | ⟨h0, hl⟩
  · exact .inl (by omega)
  · exact .inr ⟨h0, Nat.lt_of_lt_of_le hl (Nat.pow_le_pow_right (by decide) (Nat.pow_le_pow_right (n := 2) (by decide) hj))⟩
/-- An element of the level below is its own conjugate. -/
theorem sqv_low {j : Nat} (hj : j < 8) {c : Nat × Nat} (lc : lt2 c) (oc : ofE j c) (i : Nat) : sqv c (2 ^ j * i) = c := by
  induction i with
  | zero => rfl
  | succ i ih => rw [Nat.mul_succ, ← sqv_sqv lc, ih, sqv_back hj lc oc]
theorem fo_pm (c : Nat × Nat) (f : Nat → Nat × Nat) : ∀ n, fo xa (0, 0) n (fun i => pm c (f i)) = pm c (fo xa (0, 0) n f)
  | 0 => (pm_zero c).symm
  | n + 1 => by rw [fo, fo, fo_pm c f n, pm_xa]
theorem tn_linear {k j : Nat} (hj : j < 8) {a b c : Nat × Nat} (la : lt2 a) (lb : lt2 b) (lc : lt2 c) (oc : ofE j c) : tn xa (0, 0) k j (xa (pm c a) b) = xa (pm c (tn xa (0, 0) k j a)) (tn xa (0, 0) k j b) := by
  unfold tn
  rw [← fo_pm, ← fo_op mon_add]
  refine fo_congr _ fun i _ => ?_
  rw [goes_add.2 _ _ _ (lt_pm _ _) lb, goes_mul.2 _ _ _ lc la, sqv_low hj lc oc]
theorem tn_prod {k j : Nat} {a b : Nat × Nat} (la : lt2 a) (lb : lt2 b) : tn pm (0, 1) k j (pm a b) = pm (tn pm (0, 1) k j a) (tn pm (0, 1) k j b) := by
  unfold tn
  rw [← fo_op mon_mul]
  refine fo_congr _ fun i _ => ?_
  rw [goes_mul.2 _ _ _ la lb]
end Fr
end Go.Proofs.Ytakaconhoodigaa
