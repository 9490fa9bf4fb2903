/- Contracts of tower.Mul, Square, One, X, Bit and of steeplelaw02.awake over the seat's translation. -/
import Derived.Test.YthfebbmmhjkglaaTwI
import Derived.Test.YthfebbmmhjkglaaTwH
namespace Go.Proofs.Ythfebbmmhjkglaa
open Go.RowKit
open Tw (px)

theorem box3_three (W : World) (ah al bh bl : Nat) : Box3 W.heap.size ah al bh bl (((W.alloc (Obj.cells #[.int .u64 (ah : Int), .int .u64 (al : Int)] 41)).alloc (Obj.cells #[.int .u64 (bh : Int), .int .u64 (bl : Int)] 41)).alloc (Obj.cells #[.int .u64 0, .int .u64 0] 41)) := by
  refine ⟨?_, ?_, ?_⟩
  · show (((W.heap.push _).push _).push _)[W.heap.size]? = _
    rw [push_old _ _ _ (by simp <;> omega), push_old _ _ _ (by simp <;> omega)]
    exact push_new _ _ _ rfl
  · show (((W.heap.push _).push _).push _)[W.heap.size + 1]? = _
    rw [push_old _ _ _ (by simp <;> omega)]
    exact push_new _ _ _ (by simp)
  · show (((W.heap.push _).push _).push _)[W.heap.size + 1 + 1]? = _
    exact push_new _ _ _ (by simp)

set_option maxHeartbeats 400000 in
theorem mul_ok (l : Int) (ah al bh bl r1 r0 : Nat) (ha : ofB l ah al = true) (hb : ofB l bh bl = true) (h2 : al < 2 ^ 64) (h4 : bl < 2 ^ 64) (HP : Hid (∀ W, Calls Try.prog 57 #[.agg #[.int .u64 (ah : Int), .int .u64 (al : Int)], .agg #[.int .u64 (bh : Int), .int .u64 (bl : Int)]] W fun e w' => e = .returned (.agg #[.int .u64 (r1 : Nat), .int .u64 (r0 : Nat)]) ∧ Below W.heap.size W w')) (W : World) :
    Calls Try.prog 69 #[.int .i64 l, .agg #[.int .u64 (ah : Int), .int .u64 (al : Int)], .agg #[.int .u64 (bh : Int), .int .u64 (bl : Int)]] W fun e w' => e = .returned (.agg #[.int .u64 (r1 : Nat), .int .u64 (r0 : Nat)]) ∧ Below W.heap.size W w' := by
  have HO : Hid (∀ W, Calls Try.prog 55 #[.int .i64 l, .agg #[.int .u64 (ah : Int), .int .u64 (al : Int)]] W fun e w' => e = .returned (.bool true) ∧ Below W.heap.size W w') := fun W => by
    have := of_any l ah al (by omega) (by omega) W
    rwa [ha] at this
  have HO2 : Hid (∀ W, Calls Try.prog 55 #[.int .i64 l, .agg #[.int .u64 (bh : Int), .int .u64 (bl : Int)]] W fun e w' => e = .returned (.bool true) ∧ Below W.heap.size W w') := fun W => by
    have := of_any l bh bl (by omega) (by omega) W
    rwa [hb] at this
  clear ha hb h2 h4
  go_enter Try.func69, Try.ntmps69
  go_wp2_with fail
  refine (HO.out _).mono ?_
  rintro e w1 ⟨rfl, hb1⟩
  have B1 : Box3 W.heap.size ah al bh bl w1 := (box3_three W ah al bh bl).below hb1
  have D1 : Below W.heap.size W w1 := ((((Below.refl _ _).alloc (Nat.le_refl _) _).alloc (by simp <;> omega) _).alloc (by simp <;> omega) _).trans (hb1.mono (by simp <;> omega))
  obtain ⟨k1, k2, k3, k4, k5, k6, k7, k8, k9⟩ := B1.facts
  go_wp2_with fail
  refine (HO2.out _).mono ?_
  rintro e w2 ⟨rfl, hb2⟩
  have B2 := B1.below hb2
  have D2 := D1.trans (hb2.mono D1.size)
  clear k1 k2 k3 k4 k5 k6 k7 k8 k9 B1 D1 hb1 hb2 HO HO2
  obtain ⟨k1, k2, k3, k4, k5, k6, k7, k8, k9⟩ := B2.facts
  go_wp2_with fail
  refine (HP.out _).mono ?_
  rintro e w3 ⟨rfl, hb3⟩
  have B3 := B2.below hb3
  have D3 := D2.trans (hb3.mono D2.size)
  clear k1 k2 k3 k4 k5 k6 k7 k8 k9 B2 D2 hb3 HP
  obtain ⟨k1, k2, k3, k4, k5, k6, k7, k8, k9⟩ := B3.facts
  go_wp2
  refine bodyPost_ret (v := .agg #[.int .u64 (r1 : Nat), .int .u64 (r0 : Nat)]) (by simp [results, Try.results69, go_sem, *]) rfl ⟨rfl, ?_⟩
  exact (D3.setCell (by simp <;> omega) _).setCell (by simp <;> omega) _
/-- The product of two elements of a level. -/
theorem mul_of (l : Int) (ah al bh bl : Nat) (ha : ofB l ah al = true) (hb : ofB l bh bl = true) (h1 : ah < 2 ^ 64) (h2 : al < 2 ^ 64) (h3 : bh < 2 ^ 64) (h4 : bl < 2 ^ 64) (W : World) :
    Calls Try.prog 69 #[.int .i64 l, .agg #[.int .u64 (ah : Int), .int .u64 (al : Int)], .agg #[.int .u64 (bh : Int), .int .u64 (bl : Int)]] W fun e w' => e = .returned (.agg #[.int .u64 (Tw.pmh ah al bh bl : Nat), .int .u64 (Tw.pml ah al bh bl : Nat)]) ∧ Below W.heap.size W w' :=
  mul_ok l ah al bh bl _ _ ha hb h2 h4 (fun W => product_any ah al bh bl h1 h2 h3 h4 W) W
theorem mul122 (W : World) : Calls Try.prog 69 #[.int .i64 1, .agg #[.int .u64 0, .int .u64 2], .agg #[.int .u64 0, .int .u64 2]] W fun e w' => e = .returned (.agg #[.int .u64 0, .int .u64 3]) ∧ Below W.heap.size W w' := by
  have h := mul_of 1 0 2 0 2 (by decide) (by decide) (by decide) (by decide) (by decide) (by decide) W
  rw [show Tw.pmh 0 2 0 2 = 0 by decide +kernel, show Tw.pml 0 2 0 2 = 3 by decide +kernel] at h
  exact h
theorem mul244 (W : World) : Calls Try.prog 69 #[.int .i64 2, .agg #[.int .u64 0, .int .u64 4], .agg #[.int .u64 0, .int .u64 4]] W fun e w' => e = .returned (.agg #[.int .u64 0, .int .u64 9]) ∧ Below W.heap.size W w' := by
  have h := mul_of 2 0 4 0 4 (by decide) (by decide) (by decide) (by decide) (by decide) (by decide) W
  rw [show Tw.pmh 0 4 0 4 = 0 by decide +kernel, show Tw.pml 0 4 0 4 = 9 by decide +kernel] at h
  exact h
end Go.Proofs.Ythfebbmmhjkglaa
