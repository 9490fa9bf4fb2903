/- Contracts of tower.Mul, Square, One, X, Bit and of steeplelaw02.awake over the seat's translation. -/
import Derived.Test.YteejjgcfdndnpaaTwI
import Derived.Test.YteejjgcfdndnpaaTwH
namespace Go.Proofs.Yteejjgcfdndnpaa
open Go.RowKit
open Tw (px)

theorem box3_three (W : World) (ah al bh bl : Nat) : Box3 W.heap.size ah al bh bl (((W.alloc (Obj.cells #[.int .u64 (ah : Int), .int .u64 (al : Int)] 27)).alloc (Obj.cells #[.int .u64 (bh : Int), .int .u64 (bl : Int)] 27)).alloc (Obj.cells #[.int .u64 0, .int .u64 0] 27)) := by
  refine ⟨?_, ?_, ?_⟩
  · show (((W.heap.push _).push _).push _)[W.heap.size]? = _
    rw [push_old _ _ _ (by simp <;> omega), push_old _ _ _ (by simp <;> omega)]
    exact push_new _ _ _ rfl
  · show (((W.heap.push _).push _).push _)[W.heap.size + 1]? = _
    rw [push_old _ _ _ (by simp <;> omega)]
    exact push_new _ _ _ (by simp)
  · show (((W.heap.push _).push _).push _)[W.heap.size + 1 + 1]? = _
    exact push_new _ _ _ (by simp)

end Go.Proofs.Yteejjgcfdndnpaa
