/- steeplelaw02.TowerField gives true, whatever the input. -/
import Derived.Test.YtogecppdeoinhaaTwX
import Derived.Test.YtogecppdeoinhaaTwFa
import Derived.Test.YtogecppdeoinhaaTwFb
import Derived.Test.YtogecppdeoinhaaTwFz
namespace Go.Proofs.Ytogecppdeoinhaa
open Go.RowKit
namespace Tw
theorem pm_zero (bh bl : Nat) : pmh 0 0 bh bl = 0 ∧ pml 0 0 bh bl = 0 :=
  d7_inj (pmh_lt _ _ _ _) (pml_lt _ _ _ _) (by decide) (by decide) (by rw [d7_mul, d7_zero, zero_mul])
theorem pm_zero' (bh bl : Nat) : pmh bh bl 0 0 = 0 ∧ pml bh bl 0 0 = 0 := by
  obtain ⟨h1, h2⟩ := pm_comm bh bl 0 0
  rw [← h1, ← h2]; exact pm_zero bh bl
theorem d7_ne {ah al : Nat} (h1 : ah < 2 ^ 64) (h2 : al < 2 ^ 64) (h : ¬ (ah = 0 ∧ al = 0)) : d7 ah al ≠ zero 7 := fun e =>
  h (d7_inj h1 h2 (by decide) (by decide) (by rw [e, d7_zero]))
theorem pm_inv {ah al : Nat} (h1 : ah < 2 ^ 64) (h2 : al < 2 ^ 64) (h : ¬ (ah = 0 ∧ al = 0)) : pmh ah al (ivh ah al) (ivl ah al) = 0 ∧ pml ah al (ivh ah al) (ivl ah al) = 1 :=
  d7_inj (pmh_lt _ _ _ _) (pml_lt _ _ _ _) (by decide) (by decide) (by rw [d7_mul, d7_iv, field 7 _ (d7_ne h1 h2 h), d7_one])
theorem iv_iv {ah al : Nat} (h1 : ah < 2 ^ 64) (h2 : al < 2 ^ 64) : ivh (ivh ah al) (ivl ah al) = ah ∧ ivl (ivh ah al) (ivl ah al) = al :=
  d7_inj (ivh_lt _ _) (ivl_lt _ _) h1 h2 (by rw [d7_iv, d7_iv, inv_inv])
theorem pm_div {ah al bh bl : Nat} (h1 : ah < 2 ^ 64) (h2 : al < 2 ^ 64) (h3 : bh < 2 ^ 64) (h4 : bl < 2 ^ 64) (h : ¬ (ah = 0 ∧ al = 0)) : pmh (pmh ah al bh bl) (pml ah al bh bl) (ivh ah al) (ivl ah al) = bh ∧ pml (pmh ah al bh bl) (pml ah al bh bl) (ivh ah al) (ivl ah al) = bl :=
  d7_inj (pmh_lt _ _ _ _) (pml_lt _ _ _ _) h3 h4 (by rw [d7_mul, d7_mul, d7_iv, mul_comm 7 (d7 ah al) (d7 bh bl), mul_assoc, field 7 _ (d7_ne h1 h2 h), mul_one])
theorem pm_ne {ah al bh bl : Nat} (h1 : ah < 2 ^ 64) (h2 : al < 2 ^ 64) (h3 : bh < 2 ^ 64) (h4 : bl < 2 ^ 64) (h : ¬ (ah = 0 ∧ al = 0)) (k : ¬ (bh = 0 ∧ bl = 0)) : ¬ (pmh ah al bh bl = 0 ∧ pml ah al bh bl = 0) := fun e => by
  have := d7_mul ah al bh bl
  rw [e.1, e.2, d7_zero] at this
  exact d7_ne h3 h4 k (mul_eq_zero this.symm (d7_ne h1 h2 h))
theorem iv_zero : ivh 0 0 = 0 ∧ ivl 0 0 = 0 :=
  d7_inj (ivh_lt _ _) (ivl_lt _ _) (by decide) (by decide) (by rw [d7_iv, d7_zero, inv_zero])
end Tw
theorem of_iv {k ah al : Nat} (hk : k < 8) (ha : ofB (k : Int) (ah : Int) (al : Int) = true) : ofB (k : Int) (Tw.ivh ah al : Nat) (Tw.ivl ah al : Nat) = true := by
  rw [ofB_iff _ _ _ hk] at *
  rcases ha with h | ⟨rfl, h1⟩
  · exact .inl h
  · by_cases h7 : k = 7
    · exact .inl h7
    · right
      obtain ⟨e1, e0⟩ := Tw.iv_low k al (by omega) h1
      rw [e1, e0]
      exact ⟨rfl, Tw.ik_lt k al⟩

/-- The law's walk: true, whatever the input. -/
theorem field_any (level : Int) (ah al bh bl : Nat) (a1 : ah < 2 ^ 64) (a0 : al < 2 ^ 64) (b1 : bh < 2 ^ 64) (b0 : bl < 2 ^ 64) (W : World) :
    Calls Try.prog 7 #[.int .i64 level, .agg #[.int .u64 (ah : Int), .int .u64 (al : Int)], .agg #[.int .u64 (bh : Int), .int .u64 (bl : Int)]] W fun e w' => e = .returned (.bool true) ∧ Below W.heap.size W w' := by
  obtain ⟨k, hk, fk⟩ := cut_level level
  have X := cut_closed k hk (ah, al) a0
  have Y := cut_closed k hk (bh, bl) b0
  obtain ⟨x1, x0⟩ := cut_lt k (ah, al) a1 a0
  obtain ⟨y1, y0⟩ := cut_lt k (bh, bl) b1 b0
  have HOF := (cut2_of level k hk fk ah al bh bl a0 b0).ints
  generalize cutE k (ah, al) = x at *
  generalize cutE k (bh, bl) = y at *
  obtain ⟨xh, xl⟩ := x
  obtain ⟨yh, yl⟩ := y
  simp only at X Y x1 x0 y1 y0 HOF
  have M2 : Ret 15 #[.int .i64 (k : Int), .agg #[.int .u64 (xh : Int), .int .u64 (xl : Int)], .agg #[.int .u64 (yh : Int), .int .u64 (yl : Int)]] (.agg #[.int .u64 (Tw.pmh xh xl yh yl : Nat), .int .u64 (Tw.pml xh xl yh yl : Nat)]) := fun W => mul_of k xh xl yh yl X Y x1 x0 y1 y0 W
  have I1 := inv_of k xh xl X x1 x0
  by_cases hx : xh = 0 ∧ xl = 0
  · obtain ⟨rfl, rfl⟩ := hx
    rw [Tw.iv_zero.1, Tw.iv_zero.2] at I1
    rw [(Tw.pm_zero yh yl).1, (Tw.pm_zero yh yl).2] at M2
    exact field_x0 level k ah al bh bl yh yl HOF I1 awake2 M2 W
  · have hxi : ¬ ((xh : Int) = 0 ∧ (xl : Int) = 0) := by omega
    have V := of_iv hk X
    have I2 := inv_of k _ _ V (Tw.ivh_lt _ _) (Tw.ivl_lt _ _)
    rw [(Tw.iv_iv x1 x0).1, (Tw.iv_iv x1 x0).2] at I2
    have M1 : Ret 15 #[.int .i64 (k : Int), .agg #[.int .u64 (xh : Int), .int .u64 (xl : Int)], .agg #[.int .u64 (Tw.ivh xh xl : Nat), .int .u64 (Tw.ivl xh xl : Nat)]] (.agg #[.int .u64 ((0 : Nat) : Int), .int .u64 ((1 : Nat) : Int)]) := fun W => by
      have := mul_of k xh xl _ _ X V x1 x0 (Tw.ivh_lt _ _) (Tw.ivl_lt _ _) W
      rwa [(Tw.pm_inv x1 x0 hx).1, (Tw.pm_inv x1 x0 hx).2] at this
    have D1 : Ret 34 #[.int .i64 (k : Int), .agg #[.int .u64 (Tw.pmh xh xl yh yl : Nat), .int .u64 (Tw.pml xh xl yh yl : Nat)], .agg #[.int .u64 (xh : Int), .int .u64 (xl : Int)]] (.agg #[.int .u64 (yh : Int), .int .u64 (yl : Int)]) := by
      refine div_ok k _ _ xh xl _ _ yh yl I1 fun W => ?_
      have := mul_of k _ _ _ _ (of_pm hk X Y) V (Tw.pmh_lt _ _ _ _) (Tw.pml_lt _ _ _ _) (Tw.ivh_lt _ _) (Tw.ivl_lt _ _) W
      rwa [(Tw.pm_div x1 x0 y1 y0 hx).1, (Tw.pm_div x1 x0 y1 y0 hx).2] at this
    by_cases hy : yh = 0 ∧ yl = 0
    · obtain ⟨rfl, rfl⟩ := hy
      rw [(Tw.pm_zero' xh xl).1, (Tw.pm_zero' xh xl).2] at M2 D1
      exact field_zz level k ah al bh bl xh xl _ _ hxi HOF I1 awake2 one_any M1 I2 M2 D1 W
    · have hp := Tw.pm_ne x1 x0 y1 y0 hx hy
      generalize Tw.pmh xh xl yh yl = ph at *
      generalize Tw.pml xh xl yh yl = pl at *
      by_cases hyh : yh = 0
      · subst hyh
        by_cases hph : ph = 0
        · subst hph
          exact field_ll level k ah al bh bl xh xl _ _ pl yl hxi (by omega) (by omega) HOF I1 awake2 one_any M1 I2 M2 D1 W
        · exact field_lh level k ah al bh bl xh xl _ _ ph pl yl hxi (by omega) (by omega) HOF I1 awake2 one_any M1 I2 M2 D1 W
      · by_cases hph : ph = 0
        · subst hph
          exact field_hl level k ah al bh bl xh xl _ _ pl yh yl hxi (by omega) (by omega) HOF I1 awake2 one_any M1 I2 M2 D1 W
        · exact field_hh level k ah al bh bl xh xl _ _ ph pl yh yl hxi (by omega) (by omega) HOF I1 awake2 one_any M1 I2 M2 D1 W
end Go.Proofs.Ytogecppdeoinhaa
