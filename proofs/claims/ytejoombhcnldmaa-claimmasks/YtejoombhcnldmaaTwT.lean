/- Contracts of tower.MulX, Split and Join over the seat's translation. -/
import Derived.Test.YtejoombhcnldmaaTwBl
namespace Go.Proofs.Ytejoombhcnldmaa
open Go.RowKit
open Tw (px)

theorem of_ret (l : Int) (ah al : Nat) (h2 : al < 2 ^ 64) : Ret 34 #[.int .i64 l, .agg #[.int .u64 (ah : Int), .int .u64 (al : Int)]] (.bool (ofB l ah al)) := fun W => of_any l ah al (by omega) (by omega) W

set_option maxHeartbeats 400000 in
theorem mulx_low (l : Int) (ah al r : Nat) (h7 : ¬ l = 7) (HO : Ret 34 #[.int .i64 l, .agg #[.int .u64 (ah : Int), .int .u64 (al : Int)]] (.bool true)) (HX : Hid (∀ W, Calls Try.prog 96 #[.int .i64 l, .int .u64 (al : Int)] W fun e w' => e = .returned (.int .u64 (r : Nat)) ∧ w' = W)) :
    Ret 100 #[.int .i64 l, .agg #[.int .u64 (ah : Int), .int .u64 (al : Int)]] (.agg #[.int .u64 0, .int .u64 (r : Int)]) := by
  intro W
  go_enter Try.func100, Try.ntmps100
  go_wp2_with fail
  refine (HO.go _).mono ?_
  rintro e w1 ⟨rfl, hb1⟩
  have A : El w1 W.heap.size ah al := El.below ⟨by simp [go_sem], by simp [go_sem]⟩ hb1
  have R : Ew w1 (W.heap.size + 1) 0 0 := Ew.below ⟨⟨by simp [go_sem], by simp [go_sem]⟩, by simp [go_sem], by simp [go_sem]⟩ hb1
  have D : Below W.heap.size W w1 := (((Below.refl _ _).alloc (Nat.le_refl _) _).alloc (by simp) _).trans (hb1.mono (by simp <;> omega))
  obtain ⟨a1, a0⟩ := A
  obtain ⟨⟨r1, r0⟩, f1, f0⟩ := R
  clear hb1
  go_wp2_with (go_at_call 96; refine (HX.out _).mono ?_; rintro e w2 ⟨rfl, rfl⟩)
  refine bodyPost_ret (v := .agg #[.int .u64 0, .int .u64 (r : Int)]) (by simp [results, Try.results100, go_sem, *]) rfl ⟨rfl, ?_⟩
  exact (D.setCell (by simp) _).setCell (by simp) _

set_option maxHeartbeats 400000 in
theorem split1 (ah al q r : Nat) (HO : Ret 34 #[.int .i64 1, .agg #[.int .u64 (ah : Int), .int .u64 (al : Int)]] (.bool true)) (hq : Hid ((al : Int) / 2 = (q : Int))) (fr : bits .and .u64 (al : Int) 1 = (r : Int)) :
    Ret 99 #[.int .i64 1, .agg #[.int .u64 (ah : Int), .int .u64 (al : Int)]] (.tuple #[.agg #[.int .u64 0, .int .u64 (q : Int)], .agg #[.int .u64 0, .int .u64 (r : Int)]]) := by
  intro W
  go_enter Try.func99, Try.ntmps99
  go_wp2_with fail
  refine (HO.go _).mono ?_
  rintro e w1 ⟨rfl, hb1⟩
  have A : El w1 W.heap.size ah al := El.below ⟨by simp [go_sem], by simp [go_sem]⟩ hb1
  have R : Ew w1 (W.heap.size + 1) 0 0 := Ew.below ⟨⟨by simp [go_sem], by simp [go_sem]⟩, by simp [go_sem], by simp [go_sem]⟩ hb1
  have R2 : Ew w1 (W.heap.size + 1 + 1) 0 0 := Ew.below ⟨⟨by simp [go_sem], by simp [go_sem]⟩, by simp [go_sem], by simp [go_sem]⟩ hb1
  have D : Below W.heap.size W w1 := ((((Below.refl _ _).alloc (Nat.le_refl _) _).alloc (by simp) _).alloc (by simp <;> omega) _).trans (hb1.mono (by simp <;> omega))
  obtain ⟨a1, a0⟩ := A
  obtain ⟨⟨r1, r0⟩, f1, f0⟩ := R
  obtain ⟨⟨s1, s0⟩, g1, g0⟩ := R2
  clear hb1
  go_wp2_with fail
  go_region
  all_goals
    go_wp2
    refine bodyPost_ret (v := .tuple #[.agg #[.int .u64 0, .int .u64 ((al : Int) / 2)], .agg #[.int .u64 0, .int .u64 (r : Int)]]) (by simp [results, Try.results99, go_sem, *]) rfl ⟨by rw [hq.out], ?_⟩
    exact ((((D.setCell (by simp) _).setCell (by simp) _).setCell (by simp <;> omega) _).setCell (by simp <;> omega) _).drew

set_option maxHeartbeats 400000 in
theorem join1 (ah al bh bl r : Nat) (HO : Ret 34 #[.int .i64 0, .agg #[.int .u64 (ah : Int), .int .u64 (al : Int)]] (.bool true)) (HO2 : Ret 34 #[.int .i64 0, .agg #[.int .u64 (bh : Int), .int .u64 (bl : Int)]] (.bool true)) (h4 : al < 2) (fr : Hid (bits .or .u64 ((al : Int) * 2) (bl : Int) = (r : Int))) :
    Ret 102 #[.int .i64 1, .agg #[.int .u64 (ah : Int), .int .u64 (al : Int)], .agg #[.int .u64 (bh : Int), .int .u64 (bl : Int)]] (.agg #[.int .u64 0, .int .u64 (r : Int)]) := by
  intro W
  go_enter Try.func102, Try.ntmps102
  go_wp2_with fail
  refine (HO.go _).mono ?_
  rintro e w1 ⟨rfl, hb1⟩
  have A : El w1 W.heap.size ah al := El.below ⟨by simp [go_sem], by simp [go_sem]⟩ hb1
  have B : El w1 (W.heap.size + 1) bh bl := El.below ⟨by simp [go_sem], by simp [go_sem]⟩ hb1
  have R : Ew w1 (W.heap.size + 1 + 1) 0 0 := Ew.below ⟨⟨by simp [go_sem], by simp [go_sem]⟩, by simp [go_sem], by simp [go_sem]⟩ hb1
  have D : Below W.heap.size W w1 := ((((Below.refl _ _).alloc (Nat.le_refl _) _).alloc (by simp) _).alloc (by simp <;> omega) _).trans (hb1.mono (by simp <;> omega))
  have b1 := B.hi
  have b0 := B.lo
  clear hb1
  go_wp2_with fail
  refine (HO2.go _).mono ?_
  rintro e w2 ⟨rfl, hb2⟩
  have A := A.below hb2
  have B := B.below hb2
  have R := R.below hb2
  have D := D.trans (hb2.mono D.size)
  obtain ⟨a1, a0⟩ := A
  obtain ⟨b1, b0⟩ := B
  obtain ⟨⟨r1, r0⟩, f1, f0⟩ := R
  clear hb2
  go_wp2_with fail
  go_region
  all_goals
    go_wp2
    refine bodyPost_ret (v := .agg #[.int .u64 0, .int .u64 (bits .or .u64 ((al : Int) * 2) (bl : Int))]) (by simp [results, Try.results102, go_sem, *]) rfl ⟨by rw [fr.out], ?_⟩
    exact ((D.setCell (by simp <;> omega) _).setCell (by simp <;> omega) _).drew
set_option maxHeartbeats 400000 in
theorem split2 (ah al q r : Nat) (HO : Ret 34 #[.int .i64 2, .agg #[.int .u64 (ah : Int), .int .u64 (al : Int)]] (.bool true)) (hq : Hid ((al : Int) / 4 = (q : Int))) (fr : bits .and .u64 (al : Int) 3 = (r : Int)) :
    Ret 99 #[.int .i64 2, .agg #[.int .u64 (ah : Int), .int .u64 (al : Int)]] (.tuple #[.agg #[.int .u64 0, .int .u64 (q : Int)], .agg #[.int .u64 0, .int .u64 (r : Int)]]) := by
  intro W
  go_enter Try.func99, Try.ntmps99
  go_wp2_with fail
  refine (HO.go _).mono ?_
  rintro e w1 ⟨rfl, hb1⟩
  have A : El w1 W.heap.size ah al := El.below ⟨by simp [go_sem], by simp [go_sem]⟩ hb1
  have R : Ew w1 (W.heap.size + 1) 0 0 := Ew.below ⟨⟨by simp [go_sem], by simp [go_sem]⟩, by simp [go_sem], by simp [go_sem]⟩ hb1
  have R2 : Ew w1 (W.heap.size + 1 + 1) 0 0 := Ew.below ⟨⟨by simp [go_sem], by simp [go_sem]⟩, by simp [go_sem], by simp [go_sem]⟩ hb1
  have D : Below W.heap.size W w1 := ((((Below.refl _ _).alloc (Nat.le_refl _) _).alloc (by simp) _).alloc (by simp <;> omega) _).trans (hb1.mono (by simp <;> omega))
  obtain ⟨a1, a0⟩ := A
  obtain ⟨⟨r1, r0⟩, f1, f0⟩ := R
  obtain ⟨⟨s1, s0⟩, g1, g0⟩ := R2
  clear hb1
  go_wp2_with fail
  go_region
  all_goals
    go_wp2
    refine bodyPost_ret (v := .tuple #[.agg #[.int .u64 0, .int .u64 ((al : Int) / 4)], .agg #[.int .u64 0, .int .u64 (r : Int)]]) (by simp [results, Try.results99, go_sem, *]) rfl ⟨by rw [hq.out], ?_⟩
    exact ((((D.setCell (by simp) _).setCell (by simp) _).setCell (by simp <;> omega) _).setCell (by simp <;> omega) _).drew

set_option maxHeartbeats 400000 in
theorem join2 (ah al bh bl r : Nat) (HO : Ret 34 #[.int .i64 1, .agg #[.int .u64 (ah : Int), .int .u64 (al : Int)]] (.bool true)) (HO2 : Ret 34 #[.int .i64 1, .agg #[.int .u64 (bh : Int), .int .u64 (bl : Int)]] (.bool true)) (h4 : al < 4) (fr : Hid (bits .or .u64 ((al : Int) * 4) (bl : Int) = (r : Int))) :
    Ret 102 #[.int .i64 2, .agg #[.int .u64 (ah : Int), .int .u64 (al : Int)], .agg #[.int .u64 (bh : Int), .int .u64 (bl : Int)]] (.agg #[.int .u64 0, .int .u64 (r : Int)]) := by
  intro W
  go_enter Try.func102, Try.ntmps102
  go_wp2_with fail
  refine (HO.go _).mono ?_
  rintro e w1 ⟨rfl, hb1⟩
  have A : El w1 W.heap.size ah al := El.below ⟨by simp [go_sem], by simp [go_sem]⟩ hb1
  have B : El w1 (W.heap.size + 1) bh bl := El.below ⟨by simp [go_sem], by simp [go_sem]⟩ hb1
  have R : Ew w1 (W.heap.size + 1 + 1) 0 0 := Ew.below ⟨⟨by simp [go_sem], by simp [go_sem]⟩, by simp [go_sem], by simp [go_sem]⟩ hb1
  have D : Below W.heap.size W w1 := ((((Below.refl _ _).alloc (Nat.le_refl _) _).alloc (by simp) _).alloc (by simp <;> omega) _).trans (hb1.mono (by simp <;> omega))
  have b1 := B.hi
  have b0 := B.lo
  clear hb1
  go_wp2_with fail
  refine (HO2.go _).mono ?_
  rintro e w2 ⟨rfl, hb2⟩
  have A := A.below hb2
  have B := B.below hb2
  have R := R.below hb2
  have D := D.trans (hb2.mono D.size)
  obtain ⟨a1, a0⟩ := A
  obtain ⟨b1, b0⟩ := B
  obtain ⟨⟨r1, r0⟩, f1, f0⟩ := R
  clear hb2
  go_wp2_with fail
  go_region
  all_goals
    go_wp2
    refine bodyPost_ret (v := .agg #[.int .u64 0, .int .u64 (bits .or .u64 ((al : Int) * 4) (bl : Int))]) (by simp [results, Try.results102, go_sem, *]) rfl ⟨by rw [fr.out], ?_⟩
    exact ((D.setCell (by simp <;> omega) _).setCell (by simp <;> omega) _).drew
set_option maxHeartbeats 400000 in
theorem split3 (ah al q r : Nat) (HO : Ret 34 #[.int .i64 3, .agg #[.int .u64 (ah : Int), .int .u64 (al : Int)]] (.bool true)) (hq : Hid ((al : Int) / 16 = (q : Int))) (fr : bits .and .u64 (al : Int) 15 = (r : Int)) :
    Ret 99 #[.int .i64 3, .agg #[.int .u64 (ah : Int), .int .u64 (al : Int)]] (.tuple #[.agg #[.int .u64 0, .int .u64 (q : Int)], .agg #[.int .u64 0, .int .u64 (r : Int)]]) := by
  intro W
  go_enter Try.func99, Try.ntmps99
  go_wp2_with fail
  refine (HO.go _).mono ?_
  rintro e w1 ⟨rfl, hb1⟩
  have A : El w1 W.heap.size ah al := El.below ⟨by simp [go_sem], by simp [go_sem]⟩ hb1
  have R : Ew w1 (W.heap.size + 1) 0 0 := Ew.below ⟨⟨by simp [go_sem], by simp [go_sem]⟩, by simp [go_sem], by simp [go_sem]⟩ hb1
  have R2 : Ew w1 (W.heap.size + 1 + 1) 0 0 := Ew.below ⟨⟨by simp [go_sem], by simp [go_sem]⟩, by simp [go_sem], by simp [go_sem]⟩ hb1
  have D : Below W.heap.size W w1 := ((((Below.refl _ _).alloc (Nat.le_refl _) _).alloc (by simp) _).alloc (by simp <;> omega) _).trans (hb1.mono (by simp <;> omega))
  obtain ⟨a1, a0⟩ := A
  obtain ⟨⟨r1, r0⟩, f1, f0⟩ := R
  obtain ⟨⟨s1, s0⟩, g1, g0⟩ := R2
  clear hb1
  go_wp2_with fail
  go_region
  all_goals
    go_wp2
    refine bodyPost_ret (v := .tuple #[.agg #[.int .u64 0, .int .u64 ((al : Int) / 16)], .agg #[.int .u64 0, .int .u64 (r : Int)]]) (by simp [results, Try.results99, go_sem, *]) rfl ⟨by rw [hq.out], ?_⟩
    exact ((((D.setCell (by simp) _).setCell (by simp) _).setCell (by simp <;> omega) _).setCell (by simp <;> omega) _).drew

set_option maxHeartbeats 400000 in
theorem join3 (ah al bh bl r : Nat) (HO : Ret 34 #[.int .i64 2, .agg #[.int .u64 (ah : Int), .int .u64 (al : Int)]] (.bool true)) (HO2 : Ret 34 #[.int .i64 2, .agg #[.int .u64 (bh : Int), .int .u64 (bl : Int)]] (.bool true)) (h4 : al < 16) (fr : Hid (bits .or .u64 ((al : Int) * 16) (bl : Int) = (r : Int))) :
    Ret 102 #[.int .i64 3, .agg #[.int .u64 (ah : Int), .int .u64 (al : Int)], .agg #[.int .u64 (bh : Int), .int .u64 (bl : Int)]] (.agg #[.int .u64 0, .int .u64 (r : Int)]) := by
  intro W
  go_enter Try.func102, Try.ntmps102
  go_wp2_with fail
  refine (HO.go _).mono ?_
  rintro e w1 ⟨rfl, hb1⟩
  have A : El w1 W.heap.size ah al := El.below ⟨by simp [go_sem], by simp [go_sem]⟩ hb1
  have B : El w1 (W.heap.size + 1) bh bl := El.below ⟨by simp [go_sem], by simp [go_sem]⟩ hb1
  have R : Ew w1 (W.heap.size + 1 + 1) 0 0 := Ew.below ⟨⟨by simp [go_sem], by simp [go_sem]⟩, by simp [go_sem], by simp [go_sem]⟩ hb1
  have D : Below W.heap.size W w1 := ((((Below.refl _ _).alloc (Nat.le_refl _) _).alloc (by simp) _).alloc (by simp <;> omega) _).trans (hb1.mono (by simp <;> omega))
  have b1 := B.hi
  have b0 := B.lo
  clear hb1
  go_wp2_with fail
  refine (HO2.go _).mono ?_
  rintro e w2 ⟨rfl, hb2⟩
  have A := A.below hb2
  have B := B.below hb2
  have R := R.below hb2
  have D := D.trans (hb2.mono D.size)
  obtain ⟨a1, a0⟩ := A
  obtain ⟨b1, b0⟩ := B
  obtain ⟨⟨r1, r0⟩, f1, f0⟩ := R
  clear hb2
  go_wp2_with fail
  go_region
  all_goals
    go_wp2
    refine bodyPost_ret (v := .agg #[.int .u64 0, .int .u64 (bits .or .u64 ((al : Int) * 16) (bl : Int))]) (by simp [results, Try.results102, go_sem, *]) rfl ⟨by rw [fr.out], ?_⟩
    exact ((D.setCell (by simp <;> omega) _).setCell (by simp <;> omega) _).drew
set_option maxHeartbeats 400000 in
theorem split4 (ah al q r : Nat) (HO : Ret 34 #[.int .i64 4, .agg #[.int .u64 (ah : Int), .int .u64 (al : Int)]] (.bool true)) (hq : Hid ((al : Int) / 256 = (q : Int))) (fr : bits .and .u64 (al : Int) 255 = (r : Int)) :
    Ret 99 #[.int .i64 4, .agg #[.int .u64 (ah : Int), .int .u64 (al : Int)]] (.tuple #[.agg #[.int .u64 0, .int .u64 (q : Int)], .agg #[.int .u64 0, .int .u64 (r : Int)]]) := by
  intro W
  go_enter Try.func99, Try.ntmps99
  go_wp2_with fail
  refine (HO.go _).mono ?_
  rintro e w1 ⟨rfl, hb1⟩
  have A : El w1 W.heap.size ah al := El.below ⟨by simp [go_sem], by simp [go_sem]⟩ hb1
  have R : Ew w1 (W.heap.size + 1) 0 0 := Ew.below ⟨⟨by simp [go_sem], by simp [go_sem]⟩, by simp [go_sem], by simp [go_sem]⟩ hb1
  have R2 : Ew w1 (W.heap.size + 1 + 1) 0 0 := Ew.below ⟨⟨by simp [go_sem], by simp [go_sem]⟩, by simp [go_sem], by simp [go_sem]⟩ hb1
  have D : Below W.heap.size W w1 := ((((Below.refl _ _).alloc (Nat.le_refl _) _).alloc (by simp) _).alloc (by simp <;> omega) _).trans (hb1.mono (by simp <;> omega))
  obtain ⟨a1, a0⟩ := A
  obtain ⟨⟨r1, r0⟩, f1, f0⟩ := R
  obtain ⟨⟨s1, s0⟩, g1, g0⟩ := R2
  clear hb1
  go_wp2_with fail
  go_region
  all_goals
    go_wp2
    refine bodyPost_ret (v := .tuple #[.agg #[.int .u64 0, .int .u64 ((al : Int) / 256)], .agg #[.int .u64 0, .int .u64 (r : Int)]]) (by simp [results, Try.results99, go_sem, *]) rfl ⟨by rw [hq.out], ?_⟩
    exact ((((D.setCell (by simp) _).setCell (by simp) _).setCell (by simp <;> omega) _).setCell (by simp <;> omega) _).drew

set_option maxHeartbeats 400000 in
theorem join4 (ah al bh bl r : Nat) (HO : Ret 34 #[.int .i64 3, .agg #[.int .u64 (ah : Int), .int .u64 (al : Int)]] (.bool true)) (HO2 : Ret 34 #[.int .i64 3, .agg #[.int .u64 (bh : Int), .int .u64 (bl : Int)]] (.bool true)) (h4 : al < 256) (fr : Hid (bits .or .u64 ((al : Int) * 256) (bl : Int) = (r : Int))) :
    Ret 102 #[.int .i64 4, .agg #[.int .u64 (ah : Int), .int .u64 (al : Int)], .agg #[.int .u64 (bh : Int), .int .u64 (bl : Int)]] (.agg #[.int .u64 0, .int .u64 (r : Int)]) := by
  intro W
  go_enter Try.func102, Try.ntmps102
  go_wp2_with fail
  refine (HO.go _).mono ?_
  rintro e w1 ⟨rfl, hb1⟩
  have A : El w1 W.heap.size ah al := El.below ⟨by simp [go_sem], by simp [go_sem]⟩ hb1
  have B : El w1 (W.heap.size + 1) bh bl := El.below ⟨by simp [go_sem], by simp [go_sem]⟩ hb1
  have R : Ew w1 (W.heap.size + 1 + 1) 0 0 := Ew.below ⟨⟨by simp [go_sem], by simp [go_sem]⟩, by simp [go_sem], by simp [go_sem]⟩ hb1
  have D : Below W.heap.size W w1 := ((((Below.refl _ _).alloc (Nat.le_refl _) _).alloc (by simp) _).alloc (by simp <;> omega) _).trans (hb1.mono (by simp <;> omega))
  have b1 := B.hi
  have b0 := B.lo
  clear hb1
  go_wp2_with fail
  refine (HO2.go _).mono ?_
  rintro e w2 ⟨rfl, hb2⟩
  have A := A.below hb2
  have B := B.below hb2
  have R := R.below hb2
  have D := D.trans (hb2.mono D.size)
  obtain ⟨a1, a0⟩ := A
  obtain ⟨b1, b0⟩ := B
  obtain ⟨⟨r1, r0⟩, f1, f0⟩ := R
  clear hb2
  go_wp2_with fail
  go_region
  all_goals
    go_wp2
    refine bodyPost_ret (v := .agg #[.int .u64 0, .int .u64 (bits .or .u64 ((al : Int) * 256) (bl : Int))]) (by simp [results, Try.results102, go_sem, *]) rfl ⟨by rw [fr.out], ?_⟩
    exact ((D.setCell (by simp <;> omega) _).setCell (by simp <;> omega) _).drew
set_option maxHeartbeats 400000 in
theorem split5 (ah al q r : Nat) (HO : Ret 34 #[.int .i64 5, .agg #[.int .u64 (ah : Int), .int .u64 (al : Int)]] (.bool true)) (hq : Hid ((al : Int) / 65536 = (q : Int))) (fr : bits .and .u64 (al : Int) 65535 = (r : Int)) :
    Ret 99 #[.int .i64 5, .agg #[.int .u64 (ah : Int), .int .u64 (al : Int)]] (.tuple #[.agg #[.int .u64 0, .int .u64 (q : Int)], .agg #[.int .u64 0, .int .u64 (r : Int)]]) := by
  intro W
  go_enter Try.func99, Try.ntmps99
  go_wp2_with fail
  refine (HO.go _).mono ?_
  rintro e w1 ⟨rfl, hb1⟩
  have A : El w1 W.heap.size ah al := El.below ⟨by simp [go_sem], by simp [go_sem]⟩ hb1
  have R : Ew w1 (W.heap.size + 1) 0 0 := Ew.below ⟨⟨by simp [go_sem], by simp [go_sem]⟩, by simp [go_sem], by simp [go_sem]⟩ hb1
  have R2 : Ew w1 (W.heap.size + 1 + 1) 0 0 := Ew.below ⟨⟨by simp [go_sem], by simp [go_sem]⟩, by simp [go_sem], by simp [go_sem]⟩ hb1
  have D : Below W.heap.size W w1 := ((((Below.refl _ _).alloc (Nat.le_refl _) _).alloc (by simp) _).alloc (by simp <;> omega) _).trans (hb1.mono (by simp <;> omega))
  obtain ⟨a1, a0⟩ := A
  obtain ⟨⟨r1, r0⟩, f1, f0⟩ := R
  obtain ⟨⟨s1, s0⟩, g1, g0⟩ := R2
  clear hb1
  go_wp2_with fail
  go_region
  all_goals
    go_wp2
    refine bodyPost_ret (v := .tuple #[.agg #[.int .u64 0, .int .u64 ((al : Int) / 65536)], .agg #[.int .u64 0, .int .u64 (r : Int)]]) (by simp [results, Try.results99, go_sem, *]) rfl ⟨by rw [hq.out], ?_⟩
    exact ((((D.setCell (by simp) _).setCell (by simp) _).setCell (by simp <;> omega) _).setCell (by simp <;> omega) _).drew

set_option maxHeartbeats 400000 in
theorem join5 (ah al bh bl r : Nat) (HO : Ret 34 #[.int .i64 4, .agg #[.int .u64 (ah : Int), .int .u64 (al : Int)]] (.bool true)) (HO2 : Ret 34 #[.int .i64 4, .agg #[.int .u64 (bh : Int), .int .u64 (bl : Int)]] (.bool true)) (h4 : al < 65536) (fr : Hid (bits .or .u64 ((al : Int) * 65536) (bl : Int) = (r : Int))) :
    Ret 102 #[.int .i64 5, .agg #[.int .u64 (ah : Int), .int .u64 (al : Int)], .agg #[.int .u64 (bh : Int), .int .u64 (bl : Int)]] (.agg #[.int .u64 0, .int .u64 (r : Int)]) := by
  intro W
  go_enter Try.func102, Try.ntmps102
  go_wp2_with fail
  refine (HO.go _).mono ?_
  rintro e w1 ⟨rfl, hb1⟩
  have A : El w1 W.heap.size ah al := El.below ⟨by simp [go_sem], by simp [go_sem]⟩ hb1
  have B : El w1 (W.heap.size + 1) bh bl := El.below ⟨by simp [go_sem], by simp [go_sem]⟩ hb1
  have R : Ew w1 (W.heap.size + 1 + 1) 0 0 := Ew.below ⟨⟨by simp [go_sem], by simp [go_sem]⟩, by simp [go_sem], by simp [go_sem]⟩ hb1
  have D : Below W.heap.size W w1 := ((((Below.refl _ _).alloc (Nat.le_refl _) _).alloc (by simp) _).alloc (by simp <;> omega) _).trans (hb1.mono (by simp <;> omega))
  have b1 := B.hi
  have b0 := B.lo
  clear hb1
  go_wp2_with fail
  refine (HO2.go _).mono ?_
  rintro e w2 ⟨rfl, hb2⟩
  have A := A.below hb2
  have B := B.below hb2
  have R := R.below hb2
  have D := D.trans (hb2.mono D.size)
  obtain ⟨a1, a0⟩ := A
  obtain ⟨b1, b0⟩ := B
  obtain ⟨⟨r1, r0⟩, f1, f0⟩ := R
  clear hb2
  go_wp2_with fail
  go_region
  all_goals
    go_wp2
    refine bodyPost_ret (v := .agg #[.int .u64 0, .int .u64 (bits .or .u64 ((al : Int) * 65536) (bl : Int))]) (by simp [results, Try.results102, go_sem, *]) rfl ⟨by rw [fr.out], ?_⟩
    exact ((D.setCell (by simp <;> omega) _).setCell (by simp <;> omega) _).drew
set_option maxHeartbeats 400000 in
theorem split6 (ah al q r : Nat) (HO : Ret 34 #[.int .i64 6, .agg #[.int .u64 (ah : Int), .int .u64 (al : Int)]] (.bool true)) (hq : Hid ((al : Int) / 4294967296 = (q : Int))) (fr : bits .and .u64 (al : Int) 4294967295 = (r : Int)) :
    Ret 99 #[.int .i64 6, .agg #[.int .u64 (ah : Int), .int .u64 (al : Int)]] (.tuple #[.agg #[.int .u64 0, .int .u64 (q : Int)], .agg #[.int .u64 0, .int .u64 (r : Int)]]) := by
  intro W
  go_enter Try.func99, Try.ntmps99
  go_wp2_with fail
  refine (HO.go _).mono ?_
  rintro e w1 ⟨rfl, hb1⟩
  have A : El w1 W.heap.size ah al := El.below ⟨by simp [go_sem], by simp [go_sem]⟩ hb1
  have R : Ew w1 (W.heap.size + 1) 0 0 := Ew.below ⟨⟨by simp [go_sem], by simp [go_sem]⟩, by simp [go_sem], by simp [go_sem]⟩ hb1
  have R2 : Ew w1 (W.heap.size + 1 + 1) 0 0 := Ew.below ⟨⟨by simp [go_sem], by simp [go_sem]⟩, by simp [go_sem], by simp [go_sem]⟩ hb1
  have D : Below W.heap.size W w1 := ((((Below.refl _ _).alloc (Nat.le_refl _) _).alloc (by simp) _).alloc (by simp <;> omega) _).trans (hb1.mono (by simp <;> omega))
  obtain ⟨a1, a0⟩ := A
  obtain ⟨⟨r1, r0⟩, f1, f0⟩ := R
  obtain ⟨⟨s1, s0⟩, g1, g0⟩ := R2
  clear hb1
  go_wp2_with fail
  go_region
  all_goals
    go_wp2
    refine bodyPost_ret (v := .tuple #[.agg #[.int .u64 0, .int .u64 ((al : Int) / 4294967296)], .agg #[.int .u64 0, .int .u64 (r : Int)]]) (by simp [results, Try.results99, go_sem, *]) rfl ⟨by rw [hq.out], ?_⟩
    exact ((((D.setCell (by simp) _).setCell (by simp) _).setCell (by simp <;> omega) _).setCell (by simp <;> omega) _).drew

set_option maxHeartbeats 400000 in
theorem join6 (ah al bh bl r : Nat) (HO : Ret 34 #[.int .i64 5, .agg #[.int .u64 (ah : Int), .int .u64 (al : Int)]] (.bool true)) (HO2 : Ret 34 #[.int .i64 5, .agg #[.int .u64 (bh : Int), .int .u64 (bl : Int)]] (.bool true)) (h4 : al < 4294967296) (fr : Hid (bits .or .u64 ((al : Int) * 4294967296) (bl : Int) = (r : Int))) :
    Ret 102 #[.int .i64 6, .agg #[.int .u64 (ah : Int), .int .u64 (al : Int)], .agg #[.int .u64 (bh : Int), .int .u64 (bl : Int)]] (.agg #[.int .u64 0, .int .u64 (r : Int)]) := by
  intro W
  go_enter Try.func102, Try.ntmps102
  go_wp2_with fail
  refine (HO.go _).mono ?_
  rintro e w1 ⟨rfl, hb1⟩
  have A : El w1 W.heap.size ah al := El.below ⟨by simp [go_sem], by simp [go_sem]⟩ hb1
  have B : El w1 (W.heap.size + 1) bh bl := El.below ⟨by simp [go_sem], by simp [go_sem]⟩ hb1
  have R : Ew w1 (W.heap.size + 1 + 1) 0 0 := Ew.below ⟨⟨by simp [go_sem], by simp [go_sem]⟩, by simp [go_sem], by simp [go_sem]⟩ hb1
  have D : Below W.heap.size W w1 := ((((Below.refl _ _).alloc (Nat.le_refl _) _).alloc (by simp) _).alloc (by simp <;> omega) _).trans (hb1.mono (by simp <;> omega))
  have b1 := B.hi
  have b0 := B.lo
  clear hb1
  go_wp2_with fail
  refine (HO2.go _).mono ?_
  rintro e w2 ⟨rfl, hb2⟩
  have A := A.below hb2
  have B := B.below hb2
  have R := R.below hb2
  have D := D.trans (hb2.mono D.size)
  obtain ⟨a1, a0⟩ := A
  obtain ⟨b1, b0⟩ := B
  obtain ⟨⟨r1, r0⟩, f1, f0⟩ := R
  clear hb2
  go_wp2_with fail
  go_region
  all_goals
    go_wp2
    refine bodyPost_ret (v := .agg #[.int .u64 0, .int .u64 (bits .or .u64 ((al : Int) * 4294967296) (bl : Int))]) (by simp [results, Try.results102, go_sem, *]) rfl ⟨by rw [fr.out], ?_⟩
    exact ((D.setCell (by simp <;> omega) _).setCell (by simp <;> omega) _).drew
set_option maxHeartbeats 400000 in
theorem split7 (ah al : Nat) (HO : Ret 34 #[.int .i64 7, .agg #[.int .u64 (ah : Int), .int .u64 (al : Int)]] (.bool true)) :
    Ret 99 #[.int .i64 7, .agg #[.int .u64 (ah : Int), .int .u64 (al : Int)]] (.tuple #[.agg #[.int .u64 0, .int .u64 (ah : Int)], .agg #[.int .u64 0, .int .u64 (al : Int)]]) := by
  intro W
  go_enter Try.func99, Try.ntmps99
  go_wp2_with fail
  refine (HO.go _).mono ?_
  rintro e w1 ⟨rfl, hb1⟩
  have A : El w1 W.heap.size ah al := El.below ⟨by simp [go_sem], by simp [go_sem]⟩ hb1
  have R : Ew w1 (W.heap.size + 1) 0 0 := Ew.below ⟨⟨by simp [go_sem], by simp [go_sem]⟩, by simp [go_sem], by simp [go_sem]⟩ hb1
  have R2 : Ew w1 (W.heap.size + 1 + 1) 0 0 := Ew.below ⟨⟨by simp [go_sem], by simp [go_sem]⟩, by simp [go_sem], by simp [go_sem]⟩ hb1
  have D : Below W.heap.size W w1 := ((((Below.refl _ _).alloc (Nat.le_refl _) _).alloc (by simp) _).alloc (by simp <;> omega) _).trans (hb1.mono (by simp <;> omega))
  obtain ⟨a1, a0⟩ := A
  obtain ⟨⟨r1, r0⟩, f1, f0⟩ := R
  obtain ⟨⟨s1, s0⟩, g1, g0⟩ := R2
  clear hb1
  go_wp2_with fail
  go_region
  all_goals
    go_wp2
    refine bodyPost_ret (v := .tuple #[.agg #[.int .u64 0, .int .u64 (ah : Int)], .agg #[.int .u64 0, .int .u64 (al : Int)]]) (by simp [results, Try.results99, go_sem, *]) rfl ⟨rfl, ?_⟩
    exact ((((D.setCell (by simp) _).setCell (by simp) _).setCell (by simp <;> omega) _).setCell (by simp <;> omega) _).drew

set_option maxHeartbeats 400000 in
theorem join7 (ah al bh bl : Nat) (HO : Ret 34 #[.int .i64 6, .agg #[.int .u64 (ah : Int), .int .u64 (al : Int)]] (.bool true)) (HO2 : Ret 34 #[.int .i64 6, .agg #[.int .u64 (bh : Int), .int .u64 (bl : Int)]] (.bool true)) :
    Ret 102 #[.int .i64 7, .agg #[.int .u64 (ah : Int), .int .u64 (al : Int)], .agg #[.int .u64 (bh : Int), .int .u64 (bl : Int)]] (.agg #[.int .u64 (al : Int), .int .u64 (bl : Int)]) := by
  intro W
  go_enter Try.func102, Try.ntmps102
  go_wp2_with fail
  refine (HO.go _).mono ?_
  rintro e w1 ⟨rfl, hb1⟩
  have A : El w1 W.heap.size ah al := El.below ⟨by simp [go_sem], by simp [go_sem]⟩ hb1
  have B : El w1 (W.heap.size + 1) bh bl := El.below ⟨by simp [go_sem], by simp [go_sem]⟩ hb1
  have R : Ew w1 (W.heap.size + 1 + 1) 0 0 := Ew.below ⟨⟨by simp [go_sem], by simp [go_sem]⟩, by simp [go_sem], by simp [go_sem]⟩ hb1
  have D : Below W.heap.size W w1 := ((((Below.refl _ _).alloc (Nat.le_refl _) _).alloc (by simp) _).alloc (by simp <;> omega) _).trans (hb1.mono (by simp <;> omega))
  have b1 := B.hi
  have b0 := B.lo
  clear hb1
  go_wp2_with fail
  refine (HO2.go _).mono ?_
  rintro e w2 ⟨rfl, hb2⟩
  have A := A.below hb2
  have B := B.below hb2
  have R := R.below hb2
  have D := D.trans (hb2.mono D.size)
  obtain ⟨a1, a0⟩ := A
  obtain ⟨b1, b0⟩ := B
  obtain ⟨⟨r1, r0⟩, f1, f0⟩ := R
  clear hb2
  go_wp2
  refine bodyPost_ret (v := .agg #[.int .u64 (al : Int), .int .u64 (bl : Int)]) (by simp [results, Try.results102, go_sem, *]) rfl ⟨rfl, ?_⟩
  exact (D.setCell (by simp <;> omega) _).setCell (by simp <;> omega) _
end Go.Proofs.Ytejoombhcnldmaa
