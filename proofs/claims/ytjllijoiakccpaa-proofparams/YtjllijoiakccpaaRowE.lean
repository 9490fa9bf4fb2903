/- Arguments that are elements, or three elements, opened: their values written out, with the bounds of their words. -/
import Derived.Test.YtjllijoiakccpaaRows
import Derived.Test.YtjllijoiakccpaaTwBl
import Derived.ProofKit
import Derived.OpenShut
import Derived.ShutString
import Derived.ChangeOld
import Derived.Lib.SmallJoins
namespace Go.Proofs.Ytjllijoiakccpaa
open Go.ChangeShapes Go.WideShapes Go.ChangeAt Go.RowKit Go.Joins

theorem own : ownKnob Try.prog.godebug = none := by kernel_rfl
theorem laidOut : laidOutB Try.prog = true := by kernel_rfl

theorem word_nat {n : Int} (h : (Lit.int .u64 n).wf = true) : ∃ m : Nat, n = (m : Int) ∧ m < 2 ^ 64 := by
  have h2 : 0 ≤ n ∧ n < 18446744073709551616 := by
    have := h
    simp [Lit.wf] at this
    have e1 : IntKind.u64.min = 0 := by decide
    have e2 : IntKind.u64.max = 18446744073709551615 := by decide
    rw [e1, e2] at this
    omega
  exact ⟨n.toNat, by omega, by omega⟩

variable {H : Type} {enc : TypeId × Value → H} {w : World} {base : Nat} {spare : Nat → Bool} {held : Bool}

end Go.Proofs.Ytjllijoiakccpaa
