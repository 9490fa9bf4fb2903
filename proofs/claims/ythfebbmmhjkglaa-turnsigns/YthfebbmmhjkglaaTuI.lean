/- Signs at two points: carries with the weights of both: no Go in sight. -/
import Derived.Test.YthfebbmmhjkglaaTuR
namespace Go.Proofs.Ythfebbmmhjkglaa
open Go.RowKit
open Cb
open Tw (pm)

theorem pm_swap (a b c : Nat × Nat) : pm a (pm b c) = pm (pm a c) b := by rw [Tw.pm_comm' b c, Tw.pm_assoc']
/-- What next makes at two elements is the sum over both sides of the one. -/
theorem acm_two_l (sg d : Nat) (hsg : sg < 2) (hd : d < 2) (c f t : Nat → Nat × Nat) : acm sg c f t 4 d = xa (pm (st2 false sg 0 d c t) (f 0)) (pm (st2 false sg 1 d c t) (f 1)) := by
  obtain rfl | rfl : sg = 0 ∨ sg = 1 := by omega
  all_goals
    obtain rfl | rfl : d = 0 ∨ d = 1 := by omega
    all_goals
      simp only [acm, st2]
      simp [pm_swap (c 0), pm_swap (c 1), xa_pm, zero_pm, zero_xa, xa_assoc, xa_left, xa_comm]
theorem acm_two_r (sg d : Nat) (hsg : sg < 2) (hd : d < 2) (c f t : Nat → Nat × Nat) : acm sg c t f 4 d = xa (pm (st2 true sg 0 d c t) (f 0)) (pm (st2 true sg 1 d c t) (f 1)) := by
  obtain rfl | rfl : sg = 0 ∨ sg = 1 := by omega
  all_goals
    obtain rfl | rfl : d = 0 ∨ d = 1 := by omega
    all_goals
      simp only [acm, st2]
      simp [← Tw.pm_assoc', xa_pm, zero_pm, zero_xa, xa_assoc, xa_comm]
/-- Carries go over sums. -/
theorem st2_sum (rt : Bool) (sg b d n : Nat) (cc : Nat → Nat → Nat × Nat) (w : Nat → Nat × Nat) (t : Nat → Nat × Nat) : st2 rt sg b d (fun c => xs n fun y => pm (cc y c) (w y)) t = xs n fun y => pm (st2 rt sg b d (cc y) t) (w y) := by
  have h1 : ∀ a i, pm (xs n fun y => pm (cc y a) (w y)) (t i) = xs n fun y => pm (pm (cc y a) (t i)) (w y) := fun a i => by
    rw [xs_pm]
    exact xs_congr _ fun y _ => by rw [Tw.pm_assoc', Tw.pm_comm' (w y) (t i), ← Tw.pm_assoc']
  have h2 : ∀ a i a' i', xa (pm (xs n fun y => pm (cc y a) (w y)) (t i)) (pm (xs n fun y => pm (cc y a') (w y)) (t i')) = xs n fun y => pm (xa (pm (cc y a) (t i)) (pm (cc y a') (t i'))) (w y) := fun a i a' i' => by
    rw [h1, h1, ← xs_two]
    exact xs_congr _ fun y _ => by rw [xa_pm]
  have h3 : (0, 0) = xs n fun y => pm (0, 0) (w y) := (xs_none n fun y _ => zero_pm _).symm
  cases rt <;> rcases sg with _ | sg <;> rcases b with _ | b <;> rcases d with _ | d <;> simp only [st2] <;> first | rw [h2 0 0 1 1] | rw [h2 1 0 0 1] | rw [h1 0 0] | rw [h1 0 1] | rw [h1 1 0] | rw [h1 1 1] | exact h3
/-- The carries at two points. -/
def cy (rt : Bool) (p r : List (Nat × Nat)) (s c : Nat) : Nat × Nat := xs (2 ^ p.length) fun y => pm (cr rt p s c y) (wt r y)
theorem cy_step (rt : Bool) (p r : List (Nat × Nat)) (e h : Nat × Nat) (hl : p.length = r.length) (s d sg : Nat) (hd : d < 2) (hs : s / 2 ^ p.length % 2 = sg) :
    cy rt (p ++ [e]) (r ++ [h]) s d = xa (pm (st2 rt sg 0 d (cy rt p r s) (fac e)) (fac h 0)) (pm (st2 rt sg 1 d (cy rt p r s) (fac e)) (fac h 1)) := by
  unfold cy
  rw [show (p ++ [e]).length = p.length + 1 by simp, show 2 ^ (p.length + 1) = 2 ^ p.length + 2 ^ p.length by rw [← Nat.two_mul, ← Nat.pow_succ'], xs_add]
  have half : ∀ b, b < 2 → xs (2 ^ p.length) (fun y => pm (cr rt (p ++ [e]) s d (y + 2 ^ p.length * b)) (wt (r ++ [h]) (y + 2 ^ p.length * b))) = pm (st2 rt sg b d (fun c => xs (2 ^ p.length) fun y => pm (cr rt p s c y) (wt r y)) (fac e)) (fac h b) := fun b hb => by
    rw [st2_sum rt sg b d (2 ^ p.length) (fun y c => cr rt p s c y) (wt r) (fac e), xs_pm]
    refine xs_congr _ fun y hy => ?_
    rw [cr_step rt p e s d b y sg hd hb hs hy, show (2 : Nat) ^ p.length = 2 ^ r.length by rw [hl], wt_more r h (by rw [← hl]; exact hy)]
    have hfac : fac h b = fac h b := rfl
    rw [← Tw.pm_assoc']
  have h0 := half 0 (by decide)
  have h1 := half 1 (by decide)
  rw [show (fun y => pm (cr rt (p ++ [e]) s d (y + 2 ^ p.length * 0)) (wt (r ++ [h]) (y + 2 ^ p.length * 0))) = fun y => pm (cr rt (p ++ [e]) s d y) (wt (r ++ [h]) y) by funext y; rw [Nat.mul_zero, Nat.add_zero]] at h0
  rw [show (fun y => pm (cr rt (p ++ [e]) s d (y + 2 ^ p.length * 1)) (wt (r ++ [h]) (y + 2 ^ p.length * 1))) = fun y => pm (cr rt (p ++ [e]) s d (2 ^ p.length + y)) (wt (r ++ [h]) (2 ^ p.length + y)) by funext y; rw [Nat.mul_one, Nat.add_comm]] at h1
  rw [h0, h1]
/-- What next makes of the carries at two points. -/
theorem cy_next (k : Int) (p r : List (Nat × Nat)) (e h : Nat × Nat) (hl : p.length = r.length) (s d sg : Nat) (hd : d < 2) (hs : s / 2 ^ p.length % 2 = sg) :
    cy (decide (k = 2)) (p ++ [e]) (r ++ [h]) s d = if k = 2 then acm sg (cy true p r s) (fac e) (fac h) 4 d else acm sg (cy false p r s) (fac h) (fac e) 4 d := by
  have hsg : sg < 2 := by rw [← hs]; exact Nat.mod_lt _ (by decide)
  rw [cy_step (decide (k = 2)) p r e h hl s d sg hd hs]
  by_cases hk : k = 2
  · rw [if_pos hk, decide_eq_true hk, acm_two_r sg d hsg hd]
  · rw [if_neg hk, decide_eq_false hk, acm_two_l sg d hsg hd]
/-- The sign at two points. -/
def sgn2 (k : Int) (p r : List (Nat × Nat)) (s : Nat) : Nat × Nat := if k = 3 then xa (cy false p r s 0) (cy false p r s 1) else cy (decide (k = 2)) p r s 0
theorem sgn2_sum (k : Int) (p r : List (Nat × Nat)) (s : Nat) : sgn2 k p r s = xs (2 ^ p.length) fun y => pm (sgn k p s y) (wt r y) := by
  unfold sgn2 sgn cy
  by_cases hk : k = 3
  · rw [if_pos hk, ← xs_two]
    exact xs_congr _ fun y _ => by rw [if_pos hk, xa_pm]
  · rw [if_neg hk]
    exact xs_congr _ fun y _ => by rw [if_neg hk]
end Go.Proofs.Ythfebbmmhjkglaa
