/- Rows that came in; contracts of steeplelaw09.Few, of code's Encode of a nil code and of weave.Encode without a code, over the seat's translation; the walk of WeaveNone. -/
import Derived.Test.YtacnmaeaabekgaaDoorWvF
namespace Go.Proofs.YtacnmaeaabekgaaDoor
open Go.RowKit

/-- Rows in memory: slices, as a slice has them. -/
structure Grid (w : World) (a : Option Addr) (ls : List (Option Addr × Nat × Nat)) : Prop where
  cells : ∀ i, i < ls.length → ∃ b off : Nat, a = some ⟨b, off, none⟩ ∧ b < w.heap.size ∧ w.cell? ⟨b, off + i, none⟩ = some (.slice (ls.getD i (none, 0, 0)).1 (ls.getD i (none, 0, 0)).2.1 (ls.getD i (none, 0, 0)).2.2)
theorem Grid.below {w w' : World} {a : Option Addr} {ls : List (Option Addr × Nat × Nat)} (h : Grid w a ls) (hb : Below w.heap.size w w') : Grid w' a ls := ⟨fun i hi => by
  obtain ⟨b, off, h1, h2, h3⟩ := h.cells i hi
  exact ⟨b, off, h1, Nat.lt_of_lt_of_le h2 hb.size, keepc hb h3⟩⟩
/-- Are rows no more than so many, and no longer than so many? -/
def fewB (ls : List (Option Addr × Nat × Nat)) (most long : Nat) : Bool := decide (ls.length ≤ most) && ls.all fun r => decide (r.2.1 ≤ long)
theorem size_nil : Ret 11 #[.pointer none] (.int .i64 0) := by
  intro W
  go_enter Tryd.func11, Tryd.ntmps11
  go_wp2
  go_ret
  exact ⟨rfl, by first | exact Below.refl _ _ | go_grown⟩
theorem hind_nil (v : Value) (n : Int) : Ret 31 #[.pointer none, .int .i64 0, v, .int .i64 n] (.int .i64 1) := by
  intro W
  go_enter Tryd.func31, Tryd.ntmps31
  go_wp2
  go_ret
  exact ⟨rfl, by first | exact Below.refl _ _ | go_grown⟩
set_option maxHeartbeats 1000000 in
theorem enc_nil (v : Value) : Ret 16 #[.pointer none, v] (.tuple #[.slice none 0 0, .int .i64 1]) := by
  intro W
  have H1 := size_nil
  have H2 := hind_nil v 0
  go_enter Tryd.func16, Tryd.ntmps16
  go_wp2_with (first | (go_at_call 11; refine (H1.go _).mono ?_; rintro e w1 ⟨rfl, hb1⟩) | (go_at_call 31; refine (H2.go _).mono ?_; rintro e w2 ⟨rfl, hb2⟩))
  refine bodyPost_ret (v := .tuple #[.slice none 0 0, .int .i64 1]) (by simp [results, Tryd.results16, go_sem]) rfl ⟨rfl, ?_⟩
  exact hb1.trans (hb2.mono hb1.size)
end Go.Proofs.YtacnmaeaabekgaaDoor
