/- ClaimCounts over the seat's translation: all inputs. -/
import Derived.Test.YtefgkgmjhboobaaCmS
import Derived.Test.YtefgkgmjhboobaaCmT
import Derived.Test.YtefgkgmjhboobaaCmU
namespace Go.Proofs.Ytefgkgmjhboobaa
open Go.RowKit
open Cb
open Tw (pm)

theorem cc_any (l : Int) (a c : Option Addr) (cap cap2 : Nat) (cl : List Stp) (vs : List (Nat × Nat)) (oc : okC cl) (lv : ltE vs) (W : World) (ra : ORow W a cl) (rv : ERow W c vs) :
    Calls Try.prog 6 #[.int .i64 l, .slice a cl.length cap, .slice c vs.length cap2] W fun e w' => e = .returned (.bool true) ∧ Below W.heap.size W w' := by
  by_cases h : (0 ≤ l ∧ l ≤ 2) ∧ cl.length ≤ 12 ∧ cl.length = vs.length ∧ (vs.all fun e => ofB l (e.1 : Int) (e.2 : Int)) = true
  · obtain ⟨h1, h2, h3, h4⟩ := h
    rw [← h3]
    obtain rfl | rfl | rfl : l = 0 ∨ l = 1 ∨ l = 2 := by omega
    · exact ccm0 a c cap cap2 cl.length cl vs rfl h3.symm h2 oc lv (all_of.1 h4) W ra rv
    · exact ccm1 a c cap cap2 cl.length cl vs rfl h3.symm h2 oc lv (all_of.1 h4) W ra rv
    · exact ccm2 a c cap cap2 cl.length cl vs rfl h3.symm h2 oc lv (all_of.1 h4) W ra rv
  · exact cc_far l a c cap cap2 cl vs lv h W rv
end Go.Proofs.Ytefgkgmjhboobaa
