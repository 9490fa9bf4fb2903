/- Tensors, pure: any order and grouping, over sums, 1, and sides that are swapped. -/
import Derived.Test.YtcejppibcemdeaaPvR
namespace Go.Proofs.Ytcejppibcemdeaa
open Go.RowKit
open Cb Rg
open Tw (pm)
namespace Pv

theorem MM_comm (N : Nat) (s t : Nat → Nat × Nat) (w : Nat) : MM N s t w = MM N t s w := by
  unfold MM
  rw [xs_swap]
  exact xs_congr N fun u _ => xs_congr N fun v _ => by rw [Tw.pm_comm' (bv (v : Int)), Tw.pm_comm' (s v)]
theorem prL_comm {k : Nat} (hk : k ≤ 7) {s t : List (Nat × Nat)} (hs' : s.length = 2 ^ k) (ht' : t.length = 2 ^ k) : prL k s t = prL k t s := list_ext (by rw [prL_len, prL_len]) fun w hw => by
  rw [prL_len] at hw
  rw [prL_el k hk s t w hs' ht' hw, prL_el k hk t s w ht' hs' hw, MM_comm]
theorem prL_over {k : Nat} (hk : k ≤ 7) {s t u : List (Nat × Nat)} (hs' : s.length = 2 ^ k) (ht' : t.length = 2 ^ k) (hu' : u.length = 2 ^ k) : prL k s (ad2 t u) = ad2 (prL k s t) (prL k s u) := list_ext (by rw [prL_len, ad2_len, prL_len]) fun w hw => by
  rw [prL_len] at hw
  rw [prL_el k hk s _ w hs' ((ad2_len _ _).trans ht') hw, ad2_el _ _ (by rw [prL_len]; exact hw), prL_el k hk s t w hs' ht' hw, prL_el k hk s u w hs' hu' hw, ← MM_add_right]
  exact MM_congr w (fun _ _ => rfl) fun v hv => ad2_el t u (by omega)
theorem bit_nil : bv ((0 : Nat) : Int) = (0, 1) := by decide
theorem prL_one {k : Nat} (hk : k ≤ 7) {s : List (Nat × Nat)} (hs' : s.length = 2 ^ k) (ls : ltE s) : prL k s (pairv (2 ^ k) (0, 1) (0, 1)) = s := list_ext (by rw [prL_len, hs']) fun w hw => by
  rw [prL_len] at hw
  have n128 := pow128 (show k < 8 by omega)
  rw [prL_el k hk s _ w hs' (pairv_len _ _ _) hw]
  unfold MM
  have e : ∀ u : Nat, u < 2 ^ k → (xs (2 ^ k) fun v => sl (hs (pm (bv (u : Int)) (bv (v : Int))) w) (pm (el s u) (el (pairv (2 ^ k) (0, 1) (0, 1)) v))) = sl (decide (w = u)) (el s u) := fun u hu => by
    have e2 : (xs (2 ^ k) fun v => sl (hs (pm (bv (u : Int)) (bv (v : Int))) w) (pm (el s u) (el (pairv (2 ^ k) (0, 1) (0, 1)) v))) = xs (2 ^ k) fun v => sl (decide (0 = v)) (sl (hs (pm (bv (u : Int)) (bv (v : Int))) w) (el s u)) := xs_congr _ fun v hv => by
      rw [pairv_at _ _ _ v hv, ← bit_nil, hs_bvP (by decide) (by omega), bit_nil, pm_sl, pm_one (ltE_el ls u), sl_comm, decide_eq_decide.2 (show v = 0 ↔ 0 = v from ⟨Eq.symm, Eq.symm⟩)]
    rw [e2, xs_pick (f := fun v => sl (hs (pm (bv (u : Int)) (bv (v : Int))) w) (el s u)) _ (Nat.two_pow_pos k), bit_nil, pm_one (bv_lt2 _), hs_bvP (by omega) (by omega)]
  rw [xs_congr _ e]
  exact xs_pick _ hw
theorem MM_assoc {k : Nat} (hk : k < 8) (s t r : Nat → Nat × Nat) (w : Nat) : MM (2 ^ k) (MM (2 ^ k) s t) r w = MM (2 ^ k) s (MM (2 ^ k) t r) w := by
  have e1 : MM (2 ^ k) (MM (2 ^ k) s t) r w = xs (2 ^ k) fun z => TX (2 ^ k) (bv (z : Int)) (MM (2 ^ k) s fun v => pm (t v) (r z)) w := by
    unfold MM TX
    rw [xs_swap]
    refine xs_congr _ fun z _ => xs_congr _ fun x _ => ?_
    rw [Tw.pm_comm' (bv (x : Int))]
    congr 1
    rw [xs_pm]
    refine xs_congr _ fun u _ => ?_
    rw [xs_pm]
    exact xs_congr _ fun v _ => by rw [sl_pm, Tw.pm_assoc']
  have e2 : MM (2 ^ k) s (MM (2 ^ k) t r) w = xs (2 ^ k) fun u => TX (2 ^ k) (bv (u : Int)) (MM (2 ^ k) (fun v => pm (s u) (t v)) r) w := by
    unfold MM TX
    refine xs_congr _ fun u _ => xs_congr _ fun x _ => ?_
    congr 1
    rw [pm_xs]
    refine xs_congr _ fun v _ => ?_
    rw [pm_xs]
    exact xs_congr _ fun z _ => by rw [pm_sl, Tw.pm_assoc']
  rw [e1, e2, xs_congr _ fun z _ => TX_MM hk (bv (z : Int)) s fun v => pm (t v) (r z), xs_congr _ fun u _ => TX_MM hk (bv (u : Int)) (fun v => pm (s u) (t v)) r, xs_swap]
  refine xs_congr _ fun u _ => ?_
  rw [xs_swap]
  refine xs_congr _ fun v _ => xs_congr _ fun z _ => ?_
  rw [Tw.pm_assoc', Tw.pm_comm' (bv (z : Int)), Tw.pm_assoc']
theorem prL_assoc {k : Nat} (hk : k ≤ 7) {s t r : List (Nat × Nat)} (hs' : s.length = 2 ^ k) (ht' : t.length = 2 ^ k) (hr' : r.length = 2 ^ k) : prL k (prL k s t) r = prL k s (prL k t r) := list_ext (by rw [prL_len, prL_len]) fun w hw => by
  rw [prL_len] at hw
  rw [prL_el k hk _ r w (prL_len _ _ _) hr' hw, prL_el k hk s _ w hs' (prL_len _ _ _) hw, MM_congr w (fun u hu => prL_el k hk s t u hs' ht' hu) (fun _ _ => rfl), MM_congr (t := el (prL k t r)) w (fun _ _ => rfl) (fun u hu => prL_el k hk t r u ht' hr' hu)]
  exact MM_assoc (by omega) _ _ _ w
/-- The bits of a tensor with its sides swapped. -/
theorem trn_bit {N : Nat} (hN : N ≤ 128) (t : List (Nat × Nat)) {v w : Nat} (hw : w < N) : hs (trn N t v) w = hs (el t w) v := by
  unfold trn
  rw [hs_xs, bx_congr (g := fun u => hs (el t u) v && decide (w = u)) _ fun u hu => by rw [hs_sl, hs_bvP (by omega) (by omega)], bx_pick, decide_eq_true hw, Bool.true_and]
theorem trns_twice {k : Nat} (hk : k < 8) {t : List (Nat × Nat)} (ht' : t.length = 2 ^ k) (lt : ltE t) (ot : ofT k t) : trns (2 ^ k) (trns (2 ^ k) t) = t := list_ext (by rw [trns_len, ht']) fun w hw => by
  rw [trns_len] at hw
  rw [trns_at _ _ hw]
  unfold trn
  rw [xs_congr (g := fun v => sl (hs (el t w) v) (bv (v : Int))) _ fun v hv => by rw [trns_at _ t hv, trn_bit (pow128 hk) t hw]]
  exact bits_sumP hk (ltE_el lt w) (ot.el hk w)
theorem sl_inj {a b : Bool} (h : sl a (0, 1) = sl b (0, 1)) : a = b := by
  cases a <;> cases b <;> first | rfl | (exact absurd h (by decide))
/-- The bits of a product, by all bits of both. -/
theorem pm_bits {k : Nat} (hk : k < 8) {a b : Nat × Nat} (la : lt2 a) (oa : ofE k a) (lb : lt2 b) (ob : ofE k b) (w : Nat) : sl (hs (pm a b) w) (0, 1) = xs (2 ^ k) fun i => xs (2 ^ k) fun j => sl (hs a i) (sl (hs b j) (sl (hs (pm (bv (i : Int)) (bv (j : Int))) w) (0, 1))) := by
  have e : pm a b = xs (2 ^ k) fun i => xs (2 ^ k) fun j => sl (hs a i) (sl (hs b j) (pm (bv (i : Int)) (bv (j : Int)))) := by
    conv => lhs; rw [← bits_sumP hk la oa, ← bits_sumP hk lb ob]
    rw [xs_pm]
    refine xs_congr _ fun i _ => ?_
    rw [pm_xs]
    exact xs_congr _ fun j _ => by rw [pm_sl, sl_pm, sl_comm]
  rw [e, hs_xs, sl_bx]
  refine xs_congr _ fun i _ => ?_
  rw [hs_xs, sl_bx]
  exact xs_congr _ fun j _ => by rw [hs_sl, hs_sl, sl_and, sl_and]
theorem MM_bit {N : Nat} (s t : Nat → Nat × Nat) (y w : Nat) : sl (hs (MM N s t y) w) (0, 1) = xs N fun u => xs N fun v => sl (hs (pm (bv (u : Int)) (bv (v : Int))) y) (sl (hs (pm (s u) (t v)) w) (0, 1)) := by
  unfold MM
  rw [hs_xs, sl_bx]
  refine xs_congr _ fun u _ => ?_
  rw [hs_xs, sl_bx]
  exact xs_congr _ fun v _ => by rw [hs_sl, sl_and]
theorem trns_prL {k : Nat} (hk : k ≤ 7) {s t : List (Nat × Nat)} (hs' : s.length = 2 ^ k) (ht' : t.length = 2 ^ k) (ls : ltE s) (lt : ltE t) (os : ofT k s) (ot : ofT k t) : trns (2 ^ k) (prL k s t) = prL k (trns (2 ^ k) s) (trns (2 ^ k) t) := list_ext (by rw [trns_len, prL_len]) fun w hw => by
  rw [trns_len] at hw
  have hk8 : k < 8 := by omega
  have n128 := pow128 hk8
  rw [trns_at _ _ hw]
  refine pair_ext (lt_trn _ _ _) (ltE_el (lt_prL _ _ _) w) fun y hy => ?_
  change hs _ y = hs _ y
  by_cases hyN : y < 2 ^ k
  · rw [trn_bit n128 _ hyN, prL_el k hk s t y hs' ht' hyN, prL_el k hk _ _ w (trns_len _ _) (trns_len _ _) hw]
    apply sl_inj
    rw [MM_bit, MM_bit]
    rw [xs_congr (g := fun u => xs (2 ^ k) fun v => xs (2 ^ k) fun i => xs (2 ^ k) fun j => sl (hs (pm (bv (u : Int)) (bv (v : Int))) y) (sl (hs (el s u) i) (sl (hs (el t v) j) (sl (hs (pm (bv (i : Int)) (bv (j : Int))) w) (0, 1))))) _ fun u _ => xs_congr _ fun v _ => by
      rw [pm_bits hk8 (ltE_el ls u) (os.el hk8 u) (ltE_el lt v) (ot.el hk8 v), sl_xs]
      exact xs_congr _ fun i _ => sl_xs _ _ _]
    rw [xs_congr (g := fun i => xs (2 ^ k) fun j => xs (2 ^ k) fun u => xs (2 ^ k) fun v => sl (hs (pm (bv (u : Int)) (bv (v : Int))) y) (sl (hs (el s u) i) (sl (hs (el t v) j) (sl (hs (pm (bv (i : Int)) (bv (j : Int))) w) (0, 1))))) (n := 2 ^ k) (f := fun u => xs (2 ^ k) fun v => sl (hs (pm (bv (u : Int)) (bv (v : Int))) w) (sl (hs (pm (el (trns (2 ^ k) s) u) (el (trns (2 ^ k) t) v)) y) (0, 1))) fun i hi => xs_congr _ fun j hj => by
      rw [trns_at _ s hi, trns_at _ t hj, pm_bits hk8 (lt_trn _ _ _) (of_trn hk8 _ _) (lt_trn _ _ _) (of_trn hk8 _ _), sl_xs]
      refine xs_congr _ fun u hu => ?_
      rw [sl_xs]
      refine xs_congr _ fun v hv => ?_
      rw [trn_bit n128 s hu, trn_bit n128 t hv, sl_comm (hs (pm (bv (i : Int)) (bv (j : Int))) w) (hs (el s u) i), sl_comm (hs (pm (bv (i : Int)) (bv (j : Int))) w) (hs (el t v) j), sl_comm (hs (pm (bv (i : Int)) (bv (j : Int))) w) (hs (pm (bv (u : Int)) (bv (v : Int))) y), sl_comm (hs (el t v) j) (hs (pm (bv (u : Int)) (bv (v : Int))) y), sl_comm (hs (el s u) i) (hs (pm (bv (u : Int)) (bv (v : Int))) y)]]
    have sw : ∀ F : Nat → Nat → Nat → Nat → Nat × Nat, (xs (2 ^ k) fun u => xs (2 ^ k) fun v => xs (2 ^ k) fun i => xs (2 ^ k) fun j => F u v i j) = xs (2 ^ k) fun i => xs (2 ^ k) fun j => xs (2 ^ k) fun u => xs (2 ^ k) fun v => F u v i j := fun F => by
      rw [xs_congr _ fun u _ => xs_swap (fun v i => xs (2 ^ k) fun j => F u v i j) (2 ^ k) (2 ^ k), xs_swap]
      refine xs_congr _ fun i _ => ?_
      rw [xs_congr _ fun u _ => xs_swap (fun v j => F u v i j) (2 ^ k) (2 ^ k), xs_swap]
    exact sw _
  · rw [hs_high hk8 (lt_trn _ _ _) (of_trn hk8 _ _) (by omega), hs_high hk8 (ltE_el (lt_prL _ _ _) w) ((of_prL hk8 k _ _ (lt_trns _ _) (lt_trns _ _) (of_trns hk8 _) (of_trns hk8 _)).el hk8 w) (by omega)]
end Pv
end Go.Proofs.Ytcejppibcemdeaa
