/- Signs of turns by carries are the sums of weights, and the sum of signs times bits is the value of the turned bits: no Go in sight. -/
import Derived.Test.YthfebbmmhjkglaaCbG
import Derived.Test.YthfebbmmhjkglaaTuE
namespace Go.Proofs.Ythfebbmmhjkglaa
open Go.RowKit
open Cb
open Tw (pm)

theorem xs_add (f : Nat → Nat × Nat) (a : Nat) : ∀ b, xs (a + b) f = xa (xs a f) (xs b fun i => f (a + i))
  | 0 => by simp only [Nat.add_zero, xs, xa_zero]
  | b + 1 => by rw [← Nat.add_assoc]; simp only [xs]; rw [xs_add f a b, xa_assoc]
theorem xs_pm (t : Nat × Nat) (f : Nat → Nat × Nat) : ∀ n, pm (xs n f) t = xs n fun i => pm (f i) t
  | 0 => by simp only [xs, zero_pm]
  | n + 1 => by simp only [xs]; rw [xa_pm, xs_pm t f n]
theorem xs_none {f : Nat → Nat × Nat} : ∀ n, (∀ i, i < n → f i = (0, 0)) → xs n f = (0, 0)
  | 0, _ => rfl
  | n + 1, h => by simp only [xs]; rw [xs_none n (fun i hi => h i (by omega)), h n (by omega), xa_zero]
theorem xs_two (f g : Nat → Nat × Nat) : ∀ n, xs n (fun i => xa (f i) (g i)) = xa (xs n f) (xs n g)
  | 0 => by simp only [xs, xa_zero]
  | n + 1 => by
    simp only [xs]
    rw [xs_two f g n, xa_assoc, xa_assoc, xa_left (xs n g) (f n) (g n)]
/-- Two sums over pairs go in any order. -/
theorem xs_swap (f : Nat → Nat → Nat × Nat) (m : Nat) : ∀ n, xs n (fun i => xs m (f i)) = xs m fun k => xs n fun i => f i k
  | 0 => by simp only [xs]; exact (xs_none m (fun _ _ => rfl)).symm
  | n + 1 => by simp only [xs]; rw [xs_swap f m n, xs_two]
theorem xs_pick (g : Nat → Nat × Nat) (c : Int) : ∀ n : Nat, xs n (fun i => if c = (i : Int) then g i else (0, 0)) = if 0 ≤ c ∧ c < (n : Int) then g c.toNat else (0, 0)
  | 0 => by rw [if_neg (by omega)]; rfl
  | n + 1 => by
    simp only [xs]
    rw [xs_pick g c n]
    by_cases h1 : c = (n : Int)
    · subst h1
      rw [if_neg (by omega), if_pos rfl, if_pos (by omega), zero_xa, Int.toNat_natCast]
    · rw [if_neg h1, xa_zero]
      by_cases h2 : 0 ≤ c ∧ c < (n : Int)
      · rw [if_pos h2, if_pos (by omega)]
      · rw [if_neg h2, if_neg (by omega)]
theorem wtf_low : ∀ (p : List (Nat × Nat)) (o : Nat × Nat) (x z : Nat), wtf o p (x + 2 ^ p.length * z) = wtf o p x
  | [], _, _, _ => rfl
  | e :: p, o, x, z => by
    simp only [wtf, List.length_cons]
    have h1 : (x + 2 ^ (p.length + 1) * z) / 2 = x / 2 + 2 ^ p.length * z := by
      rw [show 2 ^ (p.length + 1) * z = 2 * (2 ^ p.length * z) by rw [Nat.pow_succ, Nat.mul_comm (2 ^ p.length) 2, Nat.mul_assoc], Nat.add_mul_div_left _ _ (by decide)]
    have h2 : (x + 2 ^ (p.length + 1) * z) % 2 = x % 2 := by
      rw [show 2 ^ (p.length + 1) * z = 2 * (2 ^ p.length * z) by rw [Nat.pow_succ, Nat.mul_comm (2 ^ p.length) 2, Nat.mul_assoc], Nat.add_mul_mod_self_left]
    have h3 : fac e (x + 2 ^ (p.length + 1) * z) = fac e x := by unfold fac; rw [h2]
    rw [h1, h3, wtf_low p]
/-- The weight with one coordinate more. -/
theorem wt_more (p : List (Nat × Nat)) (e : Nat × Nat) {x b : Nat} (hx : x < 2 ^ p.length) : wt (p ++ [e]) (x + 2 ^ p.length * b) = pm (wt p x) (fac e b) := by
  unfold wt
  rw [wtf_snoc, wtf_low]
  have h : (x + 2 ^ p.length * b) / 2 ^ p.length = b := by rw [Nat.add_mul_div_left _ _ (Nat.two_pow_pos _), Nat.div_eq_of_lt hx, Nat.zero_add]
  rw [h]
/-- The carries of the first bits: which x is it that y goes to (or, to the right, comes from), with the carry c. -/
def rel (rt : Bool) (m s c x y : Nat) : Bool := if rt = true then decide (x + s = y + c * m) else decide (y + s = x + c * m)
def cr (rt : Bool) (p : List (Nat × Nat)) (s c y : Nat) : Nat × Nat := xs (2 ^ p.length) fun x => if rel rt (2 ^ p.length) (s % 2 ^ p.length) c x y = true then wt p x else (0, 0)
theorem lt_cr (rt : Bool) (p : List (Nat × Nat)) (s c y : Nat) : lt2 (cr rt p s c y) := lt_xs (fun i => by split; exact lt_wt _ _; exact lt_zero) _
/-- One half of the sum with one bit more. -/
theorem cr_half (rt : Bool) (p : List (Nat × Nat)) (e : Nat × Nat) (s d c b z y sg : Nat) (hs : s / 2 ^ p.length % 2 = sg) (hc : (if rt = true then z + sg + c = b + 2 * d else b + sg + c = z + 2 * d)) :
    xs (2 ^ p.length) (fun x => if rel rt (2 ^ (p.length + 1)) (s % 2 ^ (p.length + 1)) d (2 ^ p.length * z + x) (y + 2 ^ p.length * b) = true then wt (p ++ [e]) (2 ^ p.length * z + x) else (0, 0)) = pm (cr rt p s c y) (fac e z) := by
  unfold cr
  rw [xs_pm]
  refine xs_congr _ fun x hx => ?_
  rw [Nat.add_comm (2 ^ p.length * z) x, wt_more p e hx]
  have hm : s % 2 ^ (p.length + 1) = s % 2 ^ p.length + 2 ^ p.length * sg := by rw [Nat.pow_succ, Nat.mod_mul, hs]
  have hlt : s % 2 ^ p.length < 2 ^ p.length := Nat.mod_lt _ (Nat.two_pow_pos _)
  rw [hm]
  have hrel : rel rt (2 ^ (p.length + 1)) (s % 2 ^ p.length + 2 ^ p.length * sg) d (x + 2 ^ p.length * z) (y + 2 ^ p.length * b) = rel rt (2 ^ p.length) (s % 2 ^ p.length) c x y := by
    rw [Nat.pow_succ]
    unfold rel
    generalize s % 2 ^ p.length = r at *
    generalize 2 ^ p.length = m at *
    cases rt
    · rw [if_neg (by decide)] at hc
      rw [if_neg (by decide), if_neg (by decide), decide_eq_decide]
      have h1 : m * (b + sg + c) = m * (z + 2 * d) := by rw [hc]
      have h2 : d * (m * 2) = m * (2 * d) := by rw [Nat.mul_comm d, Nat.mul_assoc]
      have h3 : c * m = m * c := Nat.mul_comm _ _
      rw [h2, h3]
      simp only [Nat.mul_add] at h1
      omega
    · rw [if_pos rfl] at hc
      rw [if_pos rfl, if_pos rfl, decide_eq_decide]
      have h1 : m * (z + sg + c) = m * (b + 2 * d) := by rw [hc]
      have h2 : d * (m * 2) = m * (2 * d) := by rw [Nat.mul_comm d, Nat.mul_assoc]
      have h3 : c * m = m * c := Nat.mul_comm _ _
      rw [h2, h3]
      simp only [Nat.mul_add] at h1
      omega
  rw [hrel]
  split
  · rfl
  · rw [zero_pm]
/-- A half of the sum that has nothing. -/
theorem cr_void (rt : Bool) (p : List (Nat × Nat)) (e : Nat × Nat) (s d b z y sg : Nat) (hz : z < 2) (hb : b < 2) (hd : d < 2) (hs : s / 2 ^ p.length % 2 = sg) (hy : y < 2 ^ p.length) (hc : ∀ c, c < 2 → ¬ (if rt = true then z + sg + c = b + 2 * d else b + sg + c = z + 2 * d)) :
    xs (2 ^ p.length) (fun x => if rel rt (2 ^ (p.length + 1)) (s % 2 ^ (p.length + 1)) d (2 ^ p.length * z + x) (y + 2 ^ p.length * b) = true then wt (p ++ [e]) (2 ^ p.length * z + x) else (0, 0)) = (0, 0) := by
  refine xs_none _ fun x hx => ?_
  have hm : s % 2 ^ (p.length + 1) = s % 2 ^ p.length + 2 ^ p.length * sg := by rw [Nat.pow_succ, Nat.mod_mul, hs]
  have hlt : s % 2 ^ p.length < 2 ^ p.length := Nat.mod_lt _ (Nat.two_pow_pos _)
  have hsg : sg < 2 := by rw [← hs]; exact Nat.mod_lt _ (by decide)
  rw [if_neg]
  rw [hm, Nat.pow_succ]
  unfold rel
  generalize s % 2 ^ p.length = r at *
  generalize 2 ^ p.length = m at *
  have h0 := hc 0 (by decide)
  have h1 := hc 1 (by decide)
  clear hc hm hs
  obtain rfl | rfl : z = 0 ∨ z = 1 := by omega
  all_goals
    obtain rfl | rfl : b = 0 ∨ b = 1 := by omega
    all_goals
      obtain rfl | rfl : d = 0 ∨ d = 1 := by omega
      all_goals
        obtain rfl | rfl : sg = 0 ∨ sg = 1 := by omega
        all_goals
          cases rt
          all_goals (simp at h0 h1 ⊢; try omega)
/-- The carries with one bit more: from the carries so far. -/
def st2 (rt : Bool) (sg b d : Nat) (c : Nat → Nat × Nat) (t : Nat → Nat × Nat) : Nat × Nat :=
  match rt, sg, b, d with
  | false, 0, 0, 0 => xa (pm (c 0) (t 0)) (pm (c 1) (t 1))
  | false, 0, 0, _ => (0, 0)
  | false, 0, _, 0 => pm (c 0) (t 1)
  | false, 0, _, _ => pm (c 1) (t 0)
  | false, _, 0, 0 => pm (c 0) (t 1)
  | false, _, 0, _ => pm (c 1) (t 0)
  | false, _, _, 0 => (0, 0)
  | false, _, _, _ => xa (pm (c 0) (t 0)) (pm (c 1) (t 1))
  | true, 0, 0, 0 => pm (c 0) (t 0)
  | true, 0, 0, _ => pm (c 1) (t 1)
  | true, 0, _, 0 => xa (pm (c 1) (t 0)) (pm (c 0) (t 1))
  | true, 0, _, _ => (0, 0)
  | true, _, 0, 0 => (0, 0)
  | true, _, 0, _ => xa (pm (c 1) (t 0)) (pm (c 0) (t 1))
  | true, _, _, 0 => pm (c 0) (t 0)
  | true, _, _, _ => pm (c 1) (t 1)
theorem cr_step (rt : Bool) (p : List (Nat × Nat)) (e : Nat × Nat) (s d b y sg : Nat) (hd : d < 2) (hb : b < 2) (hs : s / 2 ^ p.length % 2 = sg) (hy : y < 2 ^ p.length) :
    cr rt (p ++ [e]) s d (y + 2 ^ p.length * b) = st2 rt sg b d (fun c => cr rt p s c y) (fac e) := by
  have hsg : sg < 2 := by rw [← hs]; exact Nat.mod_lt _ (by decide)
  have e1 : cr rt (p ++ [e]) s d (y + 2 ^ p.length * b) = xa (xs (2 ^ p.length) (fun x => if rel rt (2 ^ (p.length + 1)) (s % 2 ^ (p.length + 1)) d (2 ^ p.length * 0 + x) (y + 2 ^ p.length * b) = true then wt (p ++ [e]) (2 ^ p.length * 0 + x) else (0, 0))) (xs (2 ^ p.length) (fun x => if rel rt (2 ^ (p.length + 1)) (s % 2 ^ (p.length + 1)) d (2 ^ p.length * 1 + x) (y + 2 ^ p.length * b) = true then wt (p ++ [e]) (2 ^ p.length * 1 + x) else (0, 0))) := by
    unfold cr
    rw [show (p ++ [e]).length = p.length + 1 by simp]
    rw [show xs (2 ^ (p.length + 1)) (fun x => if rel rt (2 ^ (p.length + 1)) (s % 2 ^ (p.length + 1)) d x (y + 2 ^ p.length * b) = true then wt (p ++ [e]) x else (0, 0)) = xs (2 ^ p.length + 2 ^ p.length) (fun x => if rel rt (2 ^ (p.length + 1)) (s % 2 ^ (p.length + 1)) d x (y + 2 ^ p.length * b) = true then wt (p ++ [e]) x else (0, 0)) by rw [← Nat.two_mul, ← Nat.pow_succ'], xs_add]
    simp only [Nat.mul_zero, Nat.zero_add, Nat.mul_one]
  rw [e1]
  have half := fun z c (_ : z < 2) hc => cr_half rt p e s d c b z y sg hs hc
  have void := fun z hz hc => cr_void rt p e s d b z y sg hz hb hd hs hy hc
  clear e1 hs
  obtain rfl | rfl : b = 0 ∨ b = 1 := by omega
  all_goals
    obtain rfl | rfl : d = 0 ∨ d = 1 := by omega
    all_goals
      obtain rfl | rfl : sg = 0 ∨ sg = 1 := by omega
      all_goals
        cases rt
        all_goals
          first
            | rw [half 0 0 (by decide) (by decide), half 1 1 (by decide) (by decide)]; rfl
            | rw [half 0 1 (by decide) (by decide), half 1 0 (by decide) (by decide)]; rfl
            | rw [half 0 0 (by decide) (by decide), void 1 (by decide) (by decide), xa_zero]; rfl
            | rw [half 0 1 (by decide) (by decide), void 1 (by decide) (by decide), xa_zero]; rfl
            | rw [void 0 (by decide) (by decide), half 1 0 (by decide) (by decide), zero_xa]; rfl
            | rw [void 0 (by decide) (by decide), half 1 1 (by decide) (by decide), zero_xa]; rfl
            | rw [void 0 (by decide) (by decide), void 1 (by decide) (by decide), zero_xa]; rfl
theorem cr_start (rt : Bool) (s : Nat) : cr rt [] s 0 0 = (0, 1) ∧ cr rt [] s 1 0 = (0, 0) := by
  cases rt <;> (simp [cr, rel, xs, wt, wtf, xa, Nat.mod_one])
end Go.Proofs.Ythfebbmmhjkglaa
