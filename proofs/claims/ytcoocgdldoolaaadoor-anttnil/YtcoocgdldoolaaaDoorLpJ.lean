/- The contract of linpoly's value for any space: each value out of the one ahead of it. -/
import Derived.Test.YtcoocgdldoolaaaDoorLpB
namespace Go.Proofs.YtcoocgdldoolaaaDoor
open Go.RowKit
open Tw (pm)

/-- W(k) at x, reckoned out of the tops: (W + top) W. -/
def wv (l : Int) (ts : List (Nat × Nat)) (x : Nat × Nat) : Nat → Nat × Nat
  | 0 => x
  | k + 1 => mulv l (wv l ts x k) ((wv l ts x k).1 ^^^ (ts.getD k (0, 0)).1, (wv l ts x k).2 ^^^ (ts.getD k (0, 0)).2)
theorem mulv_lt (l : Int) (a b : Nat × Nat) : (mulv l a b).1 < 2 ^ 64 ∧ (mulv l a b).2 < 2 ^ 64 := by
  unfold mulv
  split
  · exact Tw.pm_lt _ _
  · exact ⟨Nat.two_pow_pos 64, Nat.two_pow_pos 64⟩
theorem mulv_zero (l : Int) (b : Nat × Nat) : mulv l (0, 0) b = (0, 0) := by
  unfold mulv
  split
  · rw [Tw.pm_comm', Tw.pm_none]
  · rfl
theorem wv_lt (l : Int) (ts : List (Nat × Nat)) (x : Nat × Nat) (h1 : x.1 < 2 ^ 64) (h2 : x.2 < 2 ^ 64) : ∀ k, (wv l ts x k).1 < 2 ^ 64 ∧ (wv l ts x k).2 < 2 ^ 64
  | 0 => ⟨h1, h2⟩
  | _ + 1 => mulv_lt _ _ _
theorem wv_zero (l : Int) (ts : List (Nat × Nat)) (x : Nat × Nat) (k : Nat) (h : wv l ts x k = (0, 0)) : ∀ d, wv l ts x (k + d) = (0, 0)
  | 0 => h
  | d + 1 => by
    show mulv l (wv l ts x (k + d)) _ = _
    rw [wv_zero l ts x k h d, mulv_zero]
theorem value_any (l : Int) (B i : Nat) (x : Nat × Nat) (at_ : Option Addr) (capt : Nat) (ts : List (Nat × Nat)) (W : World) (hB : B < W.heap.size)
    (c0 : W.cell? ⟨B, 0, none⟩ = some (.int .i64 l)) (c2 : W.cell? ⟨B, 2, none⟩ = some (.slice at_ ts.length capt)) (hr : ERow W at_ ts) (hi : i ≤ ts.length) (h10 : ts.length ≤ 1000) (ht : ltE ts) (h1 : x.1 < 2 ^ 64) (h2 : x.2 < 2 ^ 64) :
    Calls Tryd.prog 35 #[.pointer (some ⟨B, 0, none⟩), .int .i64 (i : Int), .agg #[.int .u64 (x.1 : Int), .int .u64 (x.2 : Int)]] W fun e w' => e = .returned (.agg #[.int .u64 ((wv l ts x i).1 : Int), .int .u64 ((wv l ts x i).2 : Int)]) ∧ Below W.heap.size W w' := by
  refine value_core l B i x.1 x.2 at_ capt ts (wv l ts x) (fun k => ((wv l ts x k).1 ^^^ (ts.getD k (0, 0)).1, (wv l ts x k).2 ^^^ (ts.getD k (0, 0)).2)) W hB c0 c2 hr hi h10 rfl (fun k _ W => ?_) (fun k _ => ?_) (fun k hk h => ?_)
  · exact add_any _ _ _ _ (wv_lt l ts x h1 h2 k).1 (wv_lt l ts x h1 h2 k).2 (ht.at k).1 (ht.at k).2 W
  · exact mul_any l (wv l ts x k) _ (wv_lt l ts x h1 h2 k).1 (wv_lt l ts x h1 h2 k).2 (Nat.xor_lt_two_pow (wv_lt l ts x h1 h2 k).1 (ht.at k).1) (Nat.xor_lt_two_pow (wv_lt l ts x h1 h2 k).2 (ht.at k).2)
  · have := wv_zero l ts x k h (i - k)
    rwa [show k + (i - k) = i by omega] at this
end Go.Proofs.YtcoocgdldoolaaaDoor
