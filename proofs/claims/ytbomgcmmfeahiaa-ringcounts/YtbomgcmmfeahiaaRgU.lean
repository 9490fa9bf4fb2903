/- RingCounts over the seat's translation: all inputs. -/
import Derived.Test.YtbomgcmmfeahiaaRgS
import Derived.Test.YtbomgcmmfeahiaaRgT
namespace Go.Proofs.Ytbomgcmmfeahiaa
open Go.RowKit
open Cb
open Rg
open Tw (pm)

theorem rc_any (l : Int) (a a2 a3 aq : Option Addr) (c c2 c3 cq : Nat) (bs : List Bool) (lo hi qs : List (Nat × Nat)) (lh : ltE hi) (lq : ltE qs) (W : World) (ra : BRow W a bs) (rh : ERow W a3 hi) (rq : ERow W aq qs) :
    Calls Try.prog 7 #[.int .i64 l, .agg #[.slice a bs.length c, .slice a2 lo.length c2, .slice a3 hi.length c3], .slice aq qs.length cq] W fun e w' => e = .returned (.bool true) ∧ Below W.heap.size W w' := by
  by_cases h : l < 1 ∨ 2 < l
  · exact rc_lev l h a a2 a3 aq _ _ _ _ c c2 c3 cq W
  · obtain rfl | rfl : l = 1 ∨ l = 2 := by omega
    · by_cases g : bs.length ≤ 32 ∧ hi.length ≤ 6 ∧ qs.length = 2 ∧ ofT 1 qs
      · rw [g.2.2.1]
        exact rcm1 a a2 a3 aq c c2 c3 cq bs lo hi qs g.1 g.2.1 g.2.2.1 lh lq g.2.2.2 W ra rh rq
      · exact rcg1 a a2 a3 aq c c2 c3 cq bs lo hi qs lq g W rq
    · by_cases g : bs.length ≤ 32 ∧ hi.length ≤ 6 ∧ qs.length = 4 ∧ ofT 2 qs
      · rw [g.2.2.1]
        exact rcm2 a a2 a3 aq c c2 c3 cq bs lo hi qs g.1 g.2.1 g.2.2.1 lh lq g.2.2.2 W ra rh rq
      · exact rcg2 a a2 a3 aq c c2 c3 cq bs lo hi qs lq g W rq
end Go.Proofs.Ytbomgcmmfeahiaa
