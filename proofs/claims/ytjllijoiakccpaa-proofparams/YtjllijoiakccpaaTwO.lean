/- Contract of steeplelaw02.of over the seat's translation: elements cut down to a level. -/
import Derived.Test.YtjllijoiakccpaaPOctC
namespace Go.Proofs.Ytjllijoiakccpaa
open Go.RowKit

/-- The cells of elements, one behind the other. -/
def flat (es : List (Nat × Nat)) : List Value := es.flatMap fun e => [.int .u64 (e.1 : Int), .int .u64 (e.2 : Int)]
theorem flat_len (es : List (Nat × Nat)) : (flat es).length = es.length * 2 := by
  induction es with
  | nil => rfl
  | cons e l ih => simp [flat] at ih ⊢; omega
theorem flat_snoc (es : List (Nat × Nat)) (e : Nat × Nat) : flat (es ++ [e]) = flat es ++ [.int .u64 (e.1 : Int), .int .u64 (e.2 : Int)] := by simp [flat]
theorem take_sn (es : List (Nat × Nat)) (k : Nat) (h : k < es.length) : es.take (k + 1) = es.take k ++ [es.getD k (0, 0)] := by
  rw [List.take_succ_eq_append_getElem h]; simp [h]

theorem own_below {w w' : World} {base : Nat} {e : TypeId} {size : Nat} {v : Value} {n : Nat} {xs : List Value} (h : w.ownsRow base e size v n xs) (hb : Below w.heap.size w w') : w'.ownsRow base e size v n xs :=
  h.kept (row := none) ⟨hb.os, hb.tape, hb.output, hb.size, fun k hk _ => hb.block k hk⟩ (by cases v.ownBlock <;> simp)

/-- An element cut down to a level. -/
def cutE (k : Nat) (e : Nat × Nat) : Nat × Nat := (if k < 7 then 0 else e.1, if k < 6 then e.2 % 2 ^ 2 ^ k else e.2)
theorem mask_nat (k x M : Nat) (hM : M + 1 = 2 ^ 2 ^ k) (hM2 : M < 2 ^ 64) (hx : x < 2 ^ 64) : bits .and .u64 (x : Int) (M : Int) = ((x % 2 ^ 2 ^ k : Nat) : Int) := by
  rw [u64_and_nat _ _ hx hM2, show M = 2 ^ 2 ^ k - 1 by omega, Nat.and_two_pow_sub_one_eq_mod]
theorem getD_map {es : List (Nat × Nat)} (f : Nat × Nat → Nat × Nat) {i : Nat} (h : i < es.length) : (es.map f).getD i (0, 0) = f (es.getD i (0, 0)) := by
  simp [h]
theorem getD_lt {es : List (Nat × Nat)} (hes : ∀ e ∈ es, e.2 < 2 ^ 64) (i : Nat) : (es.getD i (0, 0)).2 < 2 ^ 64 := by
  by_cases h : i < es.length
  · rw [show es.getD i (0, 0) = es[i] by simp [h]]; exact hes _ (List.getElem_mem h)
  · rw [show es.getD i (0, 0) = (0, 0) by simp [List.getD, List.getElem?_eq_none (Nat.not_lt.1 h)]]; decide
end Go.Proofs.Ytjllijoiakccpaa
