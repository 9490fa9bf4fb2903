/- Signs by carries: what next makes is the next carries; the sum of signs times bits is the value of the turned bits: no Go in sight. -/
import Derived.Test.YthfebbmmhjkglaaTuOr
namespace Go.Proofs.Ythfebbmmhjkglaa
open Go.RowKit
open Cb
open Tw (pm)

theorem sd0 : sd (0, 0) 0 = (0, 1) ∧ sd (0, 0) 1 = (0, 0) ∧ sd (0, 1) 0 = (0, 0) ∧ sd (0, 1) 1 = (0, 1) := by decide
theorem acm_l (sg b d : Nat) (hsg : sg < 2) (hb : b < 2) (hd : d < 2) (c t : Nat → Nat × Nat) (ht : ∀ i, lt2 (t i)) : acm sg c (sd (0, b)) t 4 d = st2 false sg b d c t := by
  have h0 := one_pm (ht 0)
  have h1 := one_pm (ht 1)
  obtain ⟨q1, q2, q3, q4⟩ := sd0
  obtain rfl | rfl : sg = 0 ∨ sg = 1 := by omega
  all_goals
    obtain rfl | rfl : b = 0 ∨ b = 1 := by omega
    all_goals
      obtain rfl | rfl : d = 0 ∨ d = 1 := by omega
      all_goals simp [acm, st2, q1, q2, q3, q4, h0, h1, zero_pm, pm_zero, zero_xa, xa_zero]
theorem acm_r (sg b d : Nat) (hsg : sg < 2) (hb : b < 2) (hd : d < 2) (c t : Nat → Nat × Nat) (ht : ∀ i, lt2 (t i)) : acm sg c t (sd (0, b)) 4 d = st2 true sg b d c t := by
  have h0 := pm_one (ht 0)
  have h1 := pm_one (ht 1)
  obtain ⟨q1, q2, q3, q4⟩ := sd0
  obtain rfl | rfl : sg = 0 ∨ sg = 1 := by omega
  all_goals
    obtain rfl | rfl : b = 0 ∨ b = 1 := by omega
    all_goals
      obtain rfl | rfl : d = 0 ∨ d = 1 := by omega
      all_goals (simp [acm, st2, q1, q2, q3, q4, h0, h1, pm_zero, zero_xa, xa_zero]; try (rw [xa_comm]))
/-- The sign at a point and a corner. -/
def sgn (k : Int) (p : List (Nat × Nat)) (s y : Nat) : Nat × Nat := if k = 3 then xa (cr false p s 0 y) (cr false p s 1 y) else cr (decide (k = 2)) p s 0 y
theorem sgn_ws (k : Int) (p : List (Nat × Nat)) (s y : Nat) (hs : s < 2 ^ p.length) (hy : y < 2 ^ p.length) : sgn k p s y = xs (2 ^ p.length) fun x => if wsB k (2 ^ p.length) s x y = true then wt p x else (0, 0) := by
  unfold sgn cr
  have hm : s % 2 ^ p.length = s := Nat.mod_eq_of_lt hs
  rw [hm]
  by_cases k3 : k = 3
  · rw [if_pos k3, ← xs_two]
    refine xs_congr _ fun x hx => ?_
    subst k3
    have h1 : (y + s) % 2 ^ p.length = if y + s < 2 ^ p.length then y + s else y + s - 2 ^ p.length := by
      split
      · exact Nat.mod_eq_of_lt (by assumption)
      · rw [Nat.mod_eq_sub_mod (by omega), Nat.mod_eq_of_lt (by omega)]
    have r0 : rel false (2 ^ p.length) s 0 x y = decide (y + s = x) := by unfold rel; rw [if_neg (by decide), decide_eq_decide]; omega
    have r1 : rel false (2 ^ p.length) s 1 x y = decide (y + s = x + 2 ^ p.length) := by unfold rel; rw [if_neg (by decide), decide_eq_decide]; omega
    have r2 : wsB 3 (2 ^ p.length) s x y = decide ((y + s) % 2 ^ p.length = x) := by unfold wsB; rw [if_neg (by decide), if_pos rfl]
    rw [r0, r1, r2, h1]
    by_cases c1 : y + s = x
    · rw [if_pos (decide_eq_true (by omega)), if_neg (by simp; omega), xa_zero, if_pos (decide_eq_true (by rw [if_pos (by omega)]; exact c1))]
    · by_cases c2 : y + s = x + 2 ^ p.length
      · rw [if_neg (by simp; omega), if_pos (decide_eq_true (by omega)), zero_xa, if_pos (decide_eq_true (by rw [if_neg (by omega)]; omega))]
      · rw [if_neg (by simp; omega), if_neg (by simp; omega), xa_zero, if_neg (by simp; split <;> omega)]
  · rw [if_neg k3]
    refine xs_congr _ fun x hx => ?_
    have : rel (decide (k = 2)) (2 ^ p.length) s 0 x y = wsB k (2 ^ p.length) s x y := by
      unfold rel wsB
      by_cases k2 : k = 2
      · rw [if_pos (decide_eq_true k2), if_pos k2, decide_eq_decide]; omega
      · rw [if_neg (by simp [k2]), if_neg k2, if_neg k3, decide_eq_decide]; omega
    rw [this]
/-- Bits as elements. -/
def bel (bs : List Bool) : List (Nat × Nat) := bs.map fun b => if b = true then (0, 1) else (0, 0)
theorem bel_len (bs : List Bool) : (bel bs).length = bs.length := by simp [bel]
theorem bel_at (bs : List Bool) (i : Nat) : el (bel bs) i = if bs.getD i false = true then (0, 1) else (0, 0) := by
  unfold el bel
  by_cases h : i < bs.length
  · simp [List.getD, h]
  · simp [List.getD, h]
/-- The value of turned bits is the sum of signs times bits. -/
theorem signs_bits (k : Int) (q n t : Nat) (hn : pw (q : Int) = n) (hf : ftB k (q : Int) (t : Int) = true) (p : List (Nat × Nat)) (hp : p.length = q) (bs : List Bool) (hb : bs.length = n) :
    xs n (fun y => pm (sgn k p t y) (el (bel bs) y)) = vl (bel (trn n (fun i : Nat => frI k (q : Int) (t : Int) (i : Int)) bs)) p := by
  have hnp : n = 2 ^ p.length := by unfold pw at hn; rw [Int.toNat_natCast, ← hp] at hn; omega
  obtain ⟨_, ⟨_, ht⟩, _⟩ := ftB_true hf
  rw [hn] at ht
  unfold vl
  rw [bel_len, trn_len, hb]
  have e1 : xs n (fun y => pm (sgn k p t y) (el (bel bs) y)) = xs n fun y => xs n fun x => if frI k (q : Int) (t : Int) (x : Int) = (y : Int) then pm (wt p x) (el (bel bs) y) else (0, 0) := by
    refine xs_congr _ fun y hy => ?_
    rw [sgn_ws k p t y (by omega) (by omega), ← hnp, xs_pm]
    refine xs_congr _ fun x hx => ?_
    rw [ws_fr hn hf hx hy]
    by_cases h : frI k (q : Int) (t : Int) (x : Int) = (y : Int)
    · rw [if_pos (decide_eq_true h), if_pos h]
    · rw [if_neg (by simp [h]), if_neg h, zero_pm]
  rw [e1, xs_swap]
  refine xs_congr _ fun x hx => ?_
  rw [xs_pick (fun y => pm (wt p x) (el (bel bs) y)), bel_at (trn n (fun i : Nat => frI k (q : Int) (t : Int) (i : Int)) bs) x, trn_one hb hx]
  by_cases h : 0 ≤ frI k (q : Int) (t : Int) (x : Int)
  · rw [if_pos ⟨h, frI_lt hn h⟩, if_pos h, bel_at, Tw.pm_comm']
  · rw [if_neg (fun hc => h hc.1), if_neg h, if_neg (by decide), zero_pm]
end Go.Proofs.Ythfebbmmhjkglaa
