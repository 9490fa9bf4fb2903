/- Products by a small number are one to one. -/
import Derived.Test.YtbmjceiogfhffaaPmK
namespace Go.Proofs.Ytbmjceiogfhffaa
open Go.RowKit

/-- The product of two bytes, as it is reckoned in level 3. -/
def pb (a b : Nat) : Nat := Tw.pk 3 a b
theorem px_pb {a b : Nat} (ha : a < 256) (hb : b < 256) : Tw.px a b = pb a b := Tw.pk_up 3 3 a b ha hb
theorem tmul_pb {k b : Nat} (hk : k < 256) (hb : b < 256) : tmul k b = pb k b := by rw [(tmul_eq hk hb).1, px_pb hk hb]
/-- The number that leads back. -/
def kinv : Nat → Nat
  | 2 => 3 | 3 => 2 | 4 => Tw.ik 3 4 | 5 => Tw.ik 3 5 | _ => Tw.ik 3 7
theorem pb_back : ∀ b : Fin 256, pb (kinv 2) (pb 2 b.val) = b.val ∧ pb (kinv 3) (pb 3 b.val) = b.val ∧ pb (kinv 4) (pb 4 b.val) = b.val ∧ pb (kinv 5) (pb 5 b.val) = b.val ∧ pb (kinv 7) (pb 7 b.val) = b.val := by decide +kernel
theorem tmul_inj {k a b : Nat} (hk : k = 2 ∨ k = 3 ∨ k = 4 ∨ k = 5 ∨ k = 7) (ha : a < 256) (hb : b < 256) (h : tmul k a = tmul k b) : a = b := by
  have h1 := pb_back ⟨a, ha⟩
  have h2 := pb_back ⟨b, hb⟩
  rw [tmul_pb (by omega) ha, tmul_pb (by omega) hb] at h
  rcases hk with rfl | rfl | rfl | rfl | rfl
  · exact h1.1.symm.trans ((congrArg (pb (kinv 2)) h).trans h2.1)
  · exact h1.2.1.symm.trans ((congrArg (pb (kinv 3)) h).trans h2.2.1)
  · exact h1.2.2.1.symm.trans ((congrArg (pb (kinv 4)) h).trans h2.2.2.1)
  · exact h1.2.2.2.1.symm.trans ((congrArg (pb (kinv 5)) h).trans h2.2.2.2.1)
  · exact h1.2.2.2.2.symm.trans ((congrArg (pb (kinv 7)) h).trans h2.2.2.2.2)
end Go.Proofs.Ytbmjceiogfhffaa
