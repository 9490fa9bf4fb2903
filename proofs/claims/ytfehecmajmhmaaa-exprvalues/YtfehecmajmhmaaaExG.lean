/- The contract of steepleref16.Check over the seat's translation. -/
import Derived.Test.YtfehecmajmhmaaaExF
import Derived.Test.YtfehecmajmhmaaaRfE
namespace Go.Proofs.Ytfehecmajmhmaaa
open Go.RowKit

/-- A step in its box beside the zero element. -/
structure Rx (W w : World) (q : Nat) (k a b : Int) (v : Nat × Nat) : Prop where
  z : El w W.heap.size 0 0
  k : w.cell? ⟨q, 0, none⟩ = some (.int .i64 k)
  a : w.cell? ⟨q, 1, none⟩ = some (.int .i64 a)
  b : w.cell? ⟨q, 2, none⟩ = some (.int .i64 b)
  v : w.cell? ⟨q, 3, none⟩ = some (.int .u64 (v.1 : Int)) ∧ w.cell? ⟨q, 4, none⟩ = some (.int .u64 (v.2 : Int))
  d : Below W.heap.size W w
theorem Rx.below {W w w' : World} {q : Nat} {k a b : Int} {v : Nat × Nat} (h : Rx W w q k a b v) (hb : Below w.heap.size w w') : Rx W w' q k a b v :=
  ⟨h.z.below hb, keepc hb h.k, keepc hb h.a, keepc hb h.b, ⟨keepc hb h.v.1, keepc hb h.v.2⟩, h.d.trans (hb.mono h.d.size)⟩
/-- The steps ahead of one that is right are right. -/
theorem chkF_zero {lv vr : Int} {l : List Stp} : ∀ {i : Nat}, chkF lv vr l i = 0 → ∀ j, j < i → chkF lv vr l j = 0 ∧ er lv vr l j = 0
  | i + 1, h, j, hj => by
    have h0 : chkF lv vr l i = 0 := Classical.byContradiction fun hc => by rw [chkF, if_neg hc] at h; exact hc h
    rw [chkF, if_pos h0] at h
    by_cases hji : j = i
    · subst hji; exact ⟨h0, h⟩
    · exact chkF_zero h0 j (by omega)
theorem er_hnI {lv vr : Int} {l : List Stp} {i : Nat} (h : er lv vr l i = 0) : hnI lv vr (i : Int) (l.getD i zst) = 0 := by
  unfold er at h
  by_cases h1 : hnI lv vr (i : Int) (l.getD i zst) = 0
  · exact h1
  · rw [if_neg h1] at h; exact absurd h h1
/-- Where a step may be asked for its degree. -/
theorem rdeg_at (lv vr : Int) (sa : Option Addr) (cap : Nat) (l : List Stp) (i : Nat) (hi : i < l.length) (hm : l.length ≤ 1000) (h0 : chkF lv vr l i = 0) (hf : frm (l.getD i zst) (i : Int) = true) (W : World) (hR : ORow W sa l) :
    Calls Try.prog 10 #[.slice sa l.length cap, .int .i64 (i : Int)] W fun e w' => e = .returned (.int .i64 (dg (l.getD i zst) (dfun (l.take i)) : Nat)) ∧ Below W.heap.size W w' := by
  rw [← dfun_new hi]
  refine rdeg sa cap l i hi hm (fun j hj hk => ?_) (fun j hj => ?_) W hR
  · by_cases hji : j = i
    · subst hji; exact frm_ahead hf hk
    · exact frm_ahead (hnI_frm (er_hnI (chkF_zero h0 j (by omega)).2)) hk
  · by_cases hji : j = i
    · subst hji; exact dfun_le (by omega) h0
    · exact dfun_le (by omega) (chkF_zero h0 j (by omega)).1
end Go.Proofs.Ytfehecmajmhmaaa
