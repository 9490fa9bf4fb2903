/- Contracts of tower.Mul, Square, MulX and X for any level and elements, over the seat's translation. -/
import Derived.Test.YthfebbmmhjkglaaTwT
import Derived.Test.YthfebbmmhjkglaaTwBl
namespace Go.Proofs.Ythfebbmmhjkglaa
open Go.RowKit
open Tw (px pm)

/-- The product in a level: nothing, if one is not of it. -/
def mulv (l : Int) (a b : Nat × Nat) : Nat × Nat := if ofB l a.1 a.2 = true ∧ ofB l b.1 b.2 = true then pm a b else (0, 0)
/-- The generator of a level. -/
def xv (l : Int) : Nat × Nat := if levelB l = true then (if l = 0 then (0, 1) else Tw.gp (l.toNat - 1)) else (0, 0)

theorem below2 {B p : Nat} {W w : World} (h : Below B W w) (hp : B ≤ p) (u v : Value) : Below B W ((w.setCell ⟨p, 0, none⟩ u).setCell ⟨p, 1, none⟩ v) := (h.setCell hp _).setCell hp _
set_option maxHeartbeats 400000 in
theorem mul_no1 (l : Int) (ah al bh bl : Nat) (HO : Ret 55 #[.int .i64 l, .agg #[.int .u64 (ah : Int), .int .u64 (al : Int)]] (.bool false)) :
    Ret 69 #[.int .i64 l, .agg #[.int .u64 (ah : Int), .int .u64 (al : Int)], .agg #[.int .u64 (bh : Int), .int .u64 (bl : Int)]] (.agg #[.int .u64 0, .int .u64 0]) := by
  intro W
  go_enter Try.func69, Try.ntmps69
  go_wp2_with fail
  refine (HO.go _).mono ?_
  rintro e w1 ⟨rfl, hb1⟩
  have R : Ew w1 (W.heap.size + 1 + 1) 0 0 := Ew.below ⟨⟨by simp [go_sem], by simp [go_sem]⟩, by simp [go_sem], by simp [go_sem]⟩ hb1
  have D : Below W.heap.size W w1 := ((((Below.refl _ _).alloc (Nat.le_refl _) _).alloc (by simp <;> omega) _).alloc (by simp <;> omega) _).trans (hb1.mono (by simp <;> omega))
  obtain ⟨⟨r1, r0⟩, f1, f0⟩ := R
  clear hb1
  go_wp2
  refine bodyPost_ret (v := .agg #[.int .u64 0, .int .u64 0]) (by simp [results, Try.results69, go_sem, *]) rfl ⟨rfl, ?_⟩
  exact below2 D (by omega) _ _
set_option maxHeartbeats 400000 in
theorem mul_no2 (l : Int) (ah al bh bl : Nat) (HO : Ret 55 #[.int .i64 l, .agg #[.int .u64 (ah : Int), .int .u64 (al : Int)]] (.bool true)) (HO2 : Ret 55 #[.int .i64 l, .agg #[.int .u64 (bh : Int), .int .u64 (bl : Int)]] (.bool false)) :
    Ret 69 #[.int .i64 l, .agg #[.int .u64 (ah : Int), .int .u64 (al : Int)], .agg #[.int .u64 (bh : Int), .int .u64 (bl : Int)]] (.agg #[.int .u64 0, .int .u64 0]) := by
  intro W
  go_enter Try.func69, Try.ntmps69
  go_wp2_with fail
  refine (HO.go _).mono ?_
  rintro e w1 ⟨rfl, hb1⟩
  have B1 : Box3 W.heap.size ah al bh bl w1 := (box3_three W ah al bh bl).below hb1
  have D1 : Below W.heap.size W w1 := ((((Below.refl _ _).alloc (Nat.le_refl _) _).alloc (by simp <;> omega) _).alloc (by simp <;> omega) _).trans (hb1.mono (by simp <;> omega))
  obtain ⟨k1, k2, k3, k4, k5, k6, k7, k8, k9⟩ := B1.facts
  go_wp2_with fail
  refine (HO2.go _).mono ?_
  rintro e w2 ⟨rfl, hb2⟩
  have B2 := B1.below hb2
  have D2 := D1.trans (hb2.mono D1.size)
  clear k1 k2 k3 k4 k5 k6 k7 k8 k9 B1 D1 hb1 hb2 HO HO2
  obtain ⟨k1, k2, k3, k4, k5, k6, k7, k8, k9⟩ := B2.facts
  go_wp2
  refine bodyPost_ret (v := .agg #[.int .u64 0, .int .u64 0]) (by simp [results, Try.results69, go_sem, *]) rfl ⟨rfl, ?_⟩
  exact below2 D2 (by omega) _ _
theorem mulv_no1 {l : Int} {a b : Nat × Nat} (h : ofB l a.1 a.2 = false) : mulv l a b = (0, 0) := by
  unfold mulv; rw [if_neg (by rintro ⟨h1, _⟩; rw [h] at h1; cases h1)]
theorem mulv_no2 {l : Int} {a b : Nat × Nat} (h : ofB l b.1 b.2 = false) : mulv l a b = (0, 0) := by
  unfold mulv; rw [if_neg (by rintro ⟨_, h1⟩; rw [h] at h1; cases h1)]
theorem mulv_of {l : Int} {a b : Nat × Nat} (h1 : ofB l a.1 a.2 = true) (h2 : ofB l b.1 b.2 = true) : mulv l a b = pm a b := by
  unfold mulv; rw [if_pos ⟨h1, h2⟩]
/-- Mul, whatever the level and the elements. -/
theorem mul_any (l : Int) (a b : Nat × Nat) (h1 : a.1 < 2 ^ 64) (h2 : a.2 < 2 ^ 64) (h3 : b.1 < 2 ^ 64) (h4 : b.2 < 2 ^ 64) :
    Ret 69 #[.int .i64 l, .agg #[.int .u64 (a.1 : Int), .int .u64 (a.2 : Int)], .agg #[.int .u64 (b.1 : Int), .int .u64 (b.2 : Int)]] (.agg #[.int .u64 ((mulv l a b).1 : Int), .int .u64 ((mulv l a b).2 : Int)]) := by
  have HA := of_ret l a.1 a.2 h2
  have HB := of_ret l b.1 b.2 h4
  cases ha : ofB l a.1 a.2
  · rw [ha] at HA; rw [mulv_no1 ha]; exact mul_no1 l _ _ _ _ HA
  · rw [ha] at HA
    cases hb : ofB l b.1 b.2
    · rw [hb] at HB; rw [mulv_no2 hb]; exact mul_no2 l _ _ _ _ HA HB
    · rw [mulv_of ha hb]; exact fun W => mul_of l a.1 a.2 b.1 b.2 ha hb h1 h2 h3 h4 W
theorem of_x (l : Int) (h : levelB l = true) : ofB l (xv l).1 (xv l).2 = true := by
  rcases level_cases l h with rfl | rfl | rfl | rfl | rfl | rfl | rfl | rfl <;> decide
theorem levelB_of {l h k : Int} (e : ofB l h k = true) : levelB l = true := by
  unfold ofB at e
  cases hl : levelB l
  · rw [hl] at e; cases e
  · rfl
theorem gbit_xv (l : Int) (h : levelB l = true) (h7 : ¬ l = 7) : xv l = (0, gbit l) := by
  rcases level_cases l h with rfl | rfl | rfl | rfl | rfl | rfl | rfl | rfl
  all_goals first | (exact absurd rfl h7) | decide
end Go.Proofs.Ythfebbmmhjkglaa
