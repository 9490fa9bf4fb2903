/- Contracts of tower.Mul, Square, MulX and X for any level and elements, over the seat's translation. -/
import Derived.Test.YtopmkooegpaeaaaGreatTwT
import Derived.Test.YtopmkooegpaeaaaGreatTwBl
namespace Go.Proofs.YtopmkooegpaeaaaGreat
open Go.RowKit
open Tw (px pm)

/-- The product in a level: nothing, if one is not of it. -/
def mulv (l : Int) (a b : Nat × Nat) : Nat × Nat := if ofB l a.1 a.2 = true ∧ ofB l b.1 b.2 = true then pm a b else (0, 0)
/-- The generator of a level. -/
def xv (l : Int) : Nat × Nat := if levelB l = true then (if l = 0 then (0, 1) else Tw.gp (l.toNat - 1)) else (0, 0)

theorem below2 {B p : Nat} {W w : World} (h : Below B W w) (hp : B ≤ p) (u v : Value) : Below B W ((w.setCell ⟨p, 0, none⟩ u).setCell ⟨p, 1, none⟩ v) := (h.setCell hp _).setCell hp _
set_option maxHeartbeats 400000 in
theorem mul_no1 (l : Int) (ah al bh bl : Nat) (HO : Ret 16 #[.int .i64 l, .agg #[.int .u64 (ah : Int), .int .u64 (al : Int)]] (.bool false)) :
    Ret 45 #[.int .i64 l, .agg #[.int .u64 (ah : Int), .int .u64 (al : Int)], .agg #[.int .u64 (bh : Int), .int .u64 (bl : Int)]] (.agg #[.int .u64 0, .int .u64 0]) := by
  intro W
  go_enter Tryz.func45, Tryz.ntmps45
  go_wp2_with fail
  refine (HO.go _).mono ?_
  rintro e w1 ⟨rfl, hb1⟩
  have R : Ew w1 (W.heap.size + 1 + 1) 0 0 := Ew.below ⟨⟨by simp [go_sem], by simp [go_sem]⟩, by simp [go_sem], by simp [go_sem]⟩ hb1
  have D : Below W.heap.size W w1 := ((((Below.refl _ _).alloc (Nat.le_refl _) _).alloc (by simp <;> omega) _).alloc (by simp <;> omega) _).trans (hb1.mono (by simp <;> omega))
  obtain ⟨⟨r1, r0⟩, f1, f0⟩ := R
  clear hb1
  go_wp2
  refine bodyPost_ret (v := .agg #[.int .u64 0, .int .u64 0]) (by simp [results, Tryz.results45, go_sem, *]) rfl ⟨rfl, ?_⟩
  exact below2 D (by omega) _ _
set_option maxHeartbeats 400000 in
theorem mul_no2 (l : Int) (ah al bh bl : Nat) (HO : Ret 16 #[.int .i64 l, .agg #[.int .u64 (ah : Int), .int .u64 (al : Int)]] (.bool true)) (HO2 : Ret 16 #[.int .i64 l, .agg #[.int .u64 (bh : Int), .int .u64 (bl : Int)]] (.bool false)) :
    Ret 45 #[.int .i64 l, .agg #[.int .u64 (ah : Int), .int .u64 (al : Int)], .agg #[.int .u64 (bh : Int), .int .u64 (bl : Int)]] (.agg #[.int .u64 0, .int .u64 0]) := by
  intro W
  go_enter Tryz.func45, Tryz.ntmps45
  go_wp2_with fail
  refine (HO.go _).mono ?_
  rintro e w1 ⟨rfl, hb1⟩
  have B1 : Box3 W.heap.size ah al bh bl w1 := (box3_three W ah al bh bl).below hb1
  have D1 : Below W.heap.size W w1 := ((((Below.refl _ _).alloc (Nat.le_refl _) _).alloc (by simp <;> omega) _).alloc (by simp <;> omega) _).trans (hb1.mono (by simp <;> omega))
  obtain ⟨k1, k2, k3, k4, k5, k6, k7, k8, k9⟩ := B1.facts
  go_wp2_with fail
  refine (HO2.go _).mono ?_
  rintro e w2 ⟨rfl, hb2⟩
  have B2 := B1.below hb2
  have D2 := D1.trans (hb2.mono D1.size)
  clear k1 k2 k3 k4 k5 k6 k7 k8 k9 B1 D1 hb1 hb2 HO HO2
  obtain ⟨k1, k2, k3, k4, k5, k6, k7, k8, k9⟩ := B2.facts
  go_wp2
  refine bodyPost_ret (v := .agg #[.int .u64 0, .int .u64 0]) (by simp [results, Tryz.results45, go_sem, *]) rfl ⟨rfl, ?_⟩
  exact below2 D2 (by omega) _ _
theorem mulv_no1 {l : Int} {a b : Nat × Nat} (h : ofB l a.1 a.2 = false) : mulv l a b = (0, 0) := by
  unfold mulv; rw [if_neg (by rintro ⟨h1, _⟩; rw [h] at h1; cases h1)]
theorem mulv_no2 {l : Int} {a b : Nat × Nat} (h : ofB l b.1 b.2 = false) : mulv l a b = (0, 0) := by
  unfold mulv; rw [if_neg (by rintro ⟨_, h1⟩; rw [h] at h1; cases h1)]
theorem mulv_of {l : Int} {a b : Nat × Nat} (h1 : ofB l a.1 a.2 = true) (h2 : ofB l b.1 b.2 = true) : mulv l a b = pm a b := by
  unfold mulv; rw [if_pos ⟨h1, h2⟩]
/-- Mul, whatever the level and the elements. -/
theorem mul_any (l : Int) (a b : Nat × Nat) (h1 : a.1 < 2 ^ 64) (h2 : a.2 < 2 ^ 64) (h3 : b.1 < 2 ^ 64) (h4 : b.2 < 2 ^ 64) :
    Ret 45 #[.int .i64 l, .agg #[.int .u64 (a.1 : Int), .int .u64 (a.2 : Int)], .agg #[.int .u64 (b.1 : Int), .int .u64 (b.2 : Int)]] (.agg #[.int .u64 ((mulv l a b).1 : Int), .int .u64 ((mulv l a b).2 : Int)]) := by
  have HA := of_ret l a.1 a.2 h2
  have HB := of_ret l b.1 b.2 h4
  cases ha : ofB l a.1 a.2
  · rw [ha] at HA; rw [mulv_no1 ha]; exact mul_no1 l _ _ _ _ HA
  · rw [ha] at HA
    cases hb : ofB l b.1 b.2
    · rw [hb] at HB; rw [mulv_no2 hb]; exact mul_no2 l _ _ _ _ HA HB
    · rw [mulv_of ha hb]; exact fun W => mul_of l a.1 a.2 b.1 b.2 ha hb h1 h2 h3 h4 W
set_option maxHeartbeats 400000 in
theorem mulx_no (l : Int) (ah al : Nat) (HO : Ret 16 #[.int .i64 l, .agg #[.int .u64 (ah : Int), .int .u64 (al : Int)]] (.bool false)) :
    Ret 101 #[.int .i64 l, .agg #[.int .u64 (ah : Int), .int .u64 (al : Int)]] (.agg #[.int .u64 0, .int .u64 0]) := by
  intro W
  go_enter Tryz.func101, Tryz.ntmps101
  go_wp2_with fail
  refine (HO.go _).mono ?_
  rintro e w1 ⟨rfl, hb1⟩
  have R : Ew w1 (W.heap.size + 1) 0 0 := Ew.below ⟨⟨by simp [go_sem], by simp [go_sem]⟩, by simp [go_sem], by simp [go_sem]⟩ hb1
  have D : Below W.heap.size W w1 := (((Below.refl _ _).alloc (Nat.le_refl _) _).alloc (by simp) _).trans (hb1.mono (by simp <;> omega))
  obtain ⟨⟨r1, r0⟩, f1, f0⟩ := R
  clear hb1
  go_wp2
  refine bodyPost_ret (v := .agg #[.int .u64 0, .int .u64 0]) (by simp [results, Tryz.results101, go_sem, *]) rfl ⟨rfl, ?_⟩
  exact below2 D (by omega) _ _
set_option maxHeartbeats 1000000 in
theorem mulx_top (ah al t r : Nat) (f : bits .xor .u64 (al : Int) (t : Int) = (r : Int)) (HO : Ret 16 #[.int .i64 7, .agg #[.int .u64 (ah : Int), .int .u64 (al : Int)]] (.bool true)) (H1 : Ret 105 #[.int .u64 (ah : Int)] (.int .u64 (t : Int))) :
    Ret 101 #[.int .i64 7, .agg #[.int .u64 (ah : Int), .int .u64 (al : Int)]] (.agg #[.int .u64 (r : Int), .int .u64 (ah : Int)]) := by
  intro W
  go_enter Tryz.func101, Tryz.ntmps101
  go_wp2_with fail
  refine (HO.go _).mono ?_
  rintro e w1 ⟨rfl, hb1⟩
  have B : Bl W w1 [(W.heap.size, ah, al)] [W.heap.size + 1] :=
    Bl.below ⟨⟨⟨by simp [go_sem], by simp [go_sem]⟩, trivial⟩, ⟨⟨by simp [go_sem], by simp [go_sem], by simp [go_sem], by simp [go_sem]⟩, trivial⟩, by go_grown⟩ hb1
  have hq : W.heap.size ≤ W.heap.size + 1 := by omega
  have hd : ¬ W.heap.size = W.heap.size + 1 ∧ ¬ W.heap.size + 1 = W.heap.size := by omega
  clear hb1
  go_upto_region 4 with fail
  generalize W.heap.size + 1 = p1 at *
  have F := B.facts
  simp only [Els, Wrs, and_true] at F
  go_region_held3 (fun w => w.cell? ⟨W.heap.size, 0, none⟩ = some (.int .u64 (ah : Int)) ∧ w.cell? ⟨W.heap.size, 1, none⟩ = some (.int .u64 (al : Int))) (go_keep) (first | (go_at_call 105; refine (H1.go _).mono ?_; rintro e w' ⟨rfl, hb'⟩; have B'' := Bl.below (w' := w') (by first | exact B | exact B.drew | exact B.room | exact B.drew.room | exact B.room.drew | exact B.alloc _ | exact B.drew.alloc _ | exact (B.alloc _).drew) hb'; clear F B hb'; have B := B''; clear B''; (try simp only [World.size_drew] at B); have F := B.facts; simp only [Els, Wrs, and_true] at F; have N := B.nes; simp only [Nes, List.map, and_true] at N; have N2 := B.b.size))
  all_goals
    go_wp2
    refine bodyPost_ret (v := .agg #[.int .u64 (r : Int), .int .u64 (ah : Int)]) (by simp [results, Tryz.results101, go_sem, *]) rfl ⟨rfl, ?_⟩
    exact (B.b.setCell hq _).setCell hq _
theorem of_x (l : Int) (h : levelB l = true) : ofB l (xv l).1 (xv l).2 = true := by
  rcases level_cases l h with rfl | rfl | rfl | rfl | rfl | rfl | rfl | rfl <;> decide
theorem levelB_of {l h k : Int} (e : ofB l h k = true) : levelB l = true := by
  unfold ofB at e
  cases hl : levelB l
  · rw [hl] at e; cases e
  · rfl
theorem gbit_xv (l : Int) (h : levelB l = true) (h7 : ¬ l = 7) : xv l = (0, gbit l) := by
  rcases level_cases l h with rfl | rfl | rfl | rfl | rfl | rfl | rfl | rfl
  all_goals first | (exact absurd rfl h7) | decide
theorem mulx_any (l : Int) (a : Nat × Nat) (h1 : a.1 < 2 ^ 64) (h2 : a.2 < 2 ^ 64) :
    Ret 101 #[.int .i64 l, .agg #[.int .u64 (a.1 : Int), .int .u64 (a.2 : Int)]] (.agg #[.int .u64 ((mulv l a (xv l)).1 : Int), .int .u64 ((mulv l a (xv l)).2 : Int)]) := by
  have HA := of_ret l a.1 a.2 h2
  cases ha : ofB l a.1 a.2
  · rw [ha] at HA; rw [mulv_no1 ha]; exact mulx_no l _ _ HA
  · rw [ha] at HA
    have hl := levelB_of ha
    rw [mulv_of ha (of_x l hl)]
    by_cases h7 : l = 7
    · subst h7
      have e : pm a (xv 7) = Tw.tms 6 a := by rw [Tw.tms_pm 6 a h1 h2]; rfl
      rw [e]
      exact mulx_top a.1 a.2 _ _ (u64_xor_nat _ _ h2 (Tw.px_lt _ _)) HA (fun W => (t6_any a.1 h1 W).mono fun _ _ ⟨h3, h4⟩ => ⟨h3, by rw [h4]; exact Below.refl _ _⟩)
    · have h0 : a.1 = 0 := by
        obtain ⟨k, hk, rfl⟩ : ∃ k : Nat, k < 8 ∧ l = (k : Int) := ⟨l.toNat, by simp [levelB] at hl; omega, by simp [levelB] at hl; omega⟩
        rcases (ofB_iff k a.1 a.2 hk).1 ha with h3 | h3
        · exact absurd (by rw [h3]; rfl) h7
        · exact h3.1
      have e : pm a (xv l) = (0, px (gbit l) a.2) := by
        rw [gbit_xv l hl h7]
        unfold pm
        simp only [h0]
        rw [Tw.pmh_low, Tw.pml_low, Tw.px_comm]
      rw [e]
      exact mulx_low l a.1 a.2 _ h7 HA (fun W => tx_any l a.2 h2 W)
end Go.Proofs.YtopmkooegpaeaaaGreat
