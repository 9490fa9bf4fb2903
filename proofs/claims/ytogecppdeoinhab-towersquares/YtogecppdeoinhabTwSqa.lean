/- steeplelaw02.TowerSquares gives true, whatever the input. -/
import Derived.Test.YtogecppdeoinhabTwSq
import Derived.Test.YtogecppdeoinhabTwU
namespace Go.Proofs.Ytogecppdeoinhab
open Go.RowKit
namespace Tw
theorem sqn_up (k n a : Nat) (h : a < 2 ^ (2 ^ k)) (j : Nat) : enc (k + j) (sqn (k + j) n (dec (k + j) a)) = enc k (sqn k n (dec k a)) := by
  induction j with
  | zero => rfl
  | succ j ih => rw [← Nat.add_assoc, dec_low (k + j) a (Nat.lt_of_lt_of_le h (pow_le_up k j)), sqn_low, enc_low, ih]
/-- A pair squared again and again. -/
def sqp (xh xl : Nat) : Nat → Nat × Nat
  | 0 => (xh, xl)
  | i + 1 => (pmh (sqp xh xl i).1 (sqp xh xl i).2 (sqp xh xl i).1 (sqp xh xl i).2, pml (sqp xh xl i).1 (sqp xh xl i).2 (sqp xh xl i).1 (sqp xh xl i).2)
theorem sqp_lt {xh xl : Nat} (h1 : xh < 2 ^ 64) (h2 : xl < 2 ^ 64) : ∀ i, (sqp xh xl i).1 < 2 ^ 64 ∧ (sqp xh xl i).2 < 2 ^ 64
  | 0 => ⟨h1, h2⟩
  | _ + 1 => ⟨pmh_lt _ _ _ _, pml_lt _ _ _ _⟩
theorem d7_sqp (xh xl : Nat) : ∀ i, d7 (sqp xh xl i).1 (sqp xh xl i).2 = sqn 7 i (d7 xh xl)
  | 0 => rfl
  | i + 1 => by rw [sqn_succ, ← d7_sqp xh xl i, ← d7_mul]; rfl
theorem sqp_back {k xh xl : Nat} (hk : k < 8) (h1 : xh < 2 ^ 64) (h2 : xl < 2 ^ 64) (h : k = 7 ∨ (xh = 0 ∧ xl < 2 ^ 2 ^ k)) : sqp xh xl (2 ^ k) = (xh, xl) := by
  have hd : sqn 7 (2 ^ k) (d7 xh xl) = d7 xh xl := by
    rcases h with rfl | ⟨rfl, h3⟩
    · exact frob 7 _
    · have e7 : d7 0 xl = dec 7 xl := by rw [← dec7 0 xl h2, Nat.mul_zero, Nat.zero_add]
      have e := sqn_up k (2 ^ k) xl h3 (7 - k)
      rw [show k + (7 - k) = 7 by omega, frob, enc_dec_lt h3] at e
      rw [e7]
      apply enc_inj
      rw [e, enc_dec_lt]
      exact Nat.lt_of_lt_of_le h3 (by have := pow_le_up k (7 - k); rwa [show k + (7 - k) = 7 by omega] at this)
  have h4 := sqp_lt h1 h2 (2 ^ k)
  have h5 := d7_inj h4.1 h4.2 h1 h2 ((d7_sqp xh xl _).trans hd)
  exact Prod.ext h5.1 h5.2
end Tw

/-- The law's walk: true, whatever the input. -/
theorem squares_law (level : Int) (ah al bh bl : Nat) (a1 : ah < 2 ^ 64) (a0 : al < 2 ^ 64) (b1 : bh < 2 ^ 64) (b0 : bl < 2 ^ 64) (W : World) :
    Calls Try.prog 3 #[.int .i64 level, .agg #[.int .u64 (ah : Int), .int .u64 (al : Int)], .agg #[.int .u64 (bh : Int), .int .u64 (bl : Int)]] W fun e w' => e = .returned (.bool true) ∧ Below W.heap.size W w' := by
  obtain ⟨k, hk, fk⟩ := cut_level level
  have X := cut_closed k hk (ah, al) a0
  have Y := cut_closed k hk (bh, bl) b0
  obtain ⟨x1, x0⟩ := cut_lt k (ah, al) a1 a0
  obtain ⟨y1, y0⟩ := cut_lt k (bh, bl) b1 b0
  have HOF := cut2_of level k hk fk ah al bh bl a0 b0
  generalize cutE k (ah, al) = x at *
  generalize cutE k (bh, bl) = y at *
  obtain ⟨xh, xl⟩ := x
  obtain ⟨yh, yl⟩ := y
  simp only at X Y x1 x0 y1 y0 HOF
  have hq := Tw.sqp_back hk x1 x0 ((ofB_iff k xh xl hk).1 X)
  have hof : ∀ i, ofB (k : Int) ((Tw.sqp xh xl i).1 : Nat) ((Tw.sqp xh xl i).2 : Nat) = true := by
    intro i
    induction i with
    | zero => exact X
    | succ i ih => exact of_pm hk ih ih
  refine squares_core level k (2 ^ k) ah al bh bl xh xl yh yl _ _ _ _ _ _ _ _ (Tw.sqp xh xl) ?_ rfl hq HOF (fun W => add_any xh xl yh yl x1 x0 y1 y0 W) (fun W => square_of k _ _ (of_xor hk X Y) (Nat.xor_lt_two_pow x1 y1) (Nat.xor_lt_two_pow x0 y0) W) (fun W => square_of k xh xl X x1 x0 W) (fun W => square_of k yh yl Y y1 y0 W) (fun W => ?_) (fun W => mul_of k xh xl xh xl X X x1 x0 x1 x0 W) (fun i W => square_of k _ _ (hof i) (Tw.sqp_lt x1 x0 i).1 (Tw.sqp_lt x1 x0 i).2 W) awake2 W
  · have hk2 : k = 0 ∨ k = 1 ∨ k = 2 ∨ k = 3 ∨ k = 4 ∨ k = 5 ∨ k = 6 ∨ k = 7 := by omega
    rcases hk2 with rfl | rfl | rfl | rfl | rfl | rfl | rfl | rfl <;> simp
  · have := add_any (Tw.pmh xh xl xh xl) (Tw.pml xh xl xh xl) (Tw.pmh yh yl yh yl) (Tw.pml yh yl yh yl) (Tw.pmh_lt _ _ _ _) (Tw.pml_lt _ _ _ _) (Tw.pmh_lt _ _ _ _) (Tw.pml_lt _ _ _ _) W
    rwa [← (Tw.pm_sq_add xh xl yh yl).1, ← (Tw.pm_sq_add xh xl yh yl).2] at this
end Go.Proofs.Ytogecppdeoinhab
