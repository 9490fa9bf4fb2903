/- The walk of CubeBinds over the seat's translation: all inputs. -/
import Derived.Test.YtcnbaoijgfaljaaCbP
namespace Go.Proofs.Ytcnbaoijgfaljaa
open Go.RowKit
open Cb

theorem cb_any (l : Int) (a ar ap : Option Addr) (c cr cp : Nat) (t rs ps : List (Nat × Nat)) (ht : ltE t) (hr : ltE rs) (hp : ltE ps) (hnr : ar = none → rs.length = 0 ∧ cr = 0) (hnp : ap = none → ps.length = 0 ∧ cp = 0) (W : World) (hT : ERow W a t) (hR : ERow W ar rs) (hP : ERow W ap ps) :
    Calls Try.prog 8 #[.int .i64 l, .slice a t.length c, .agg #[.slice ar rs.length cr, .slice ap ps.length cp]] W fun e w' => e = .returned (.bool true) ∧ Below W.heap.size W w' := by
  by_cases hf : 70 < t.length ∨ 8 < rs.length ∨ 8 < ps.length
  · exact cb_far l a ar ap _ _ _ c cr cp hf W
  · by_cases h0 : fiE l t rs = 0
    · obtain ⟨k, m, hk, rfl, _, hl, ot, or⟩ := fi_zero h0
      exact cb_ok k hk a ar ap c cr cp m t rs ps ht hr (by omega) (by omega) (by omega) hl ot or W hp hnr hnp hT hR hP
    · exact cb_err l a ar ap c cr cp ps.length t rs ht hr (by omega) (by omega) (by omega) _ rfl h0 W hT hR
end Go.Proofs.Ytcnbaoijgfaljaa
