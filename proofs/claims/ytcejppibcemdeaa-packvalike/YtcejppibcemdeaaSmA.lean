/- The contract of steeplelaw01.Same over the seat's translation: the same elements. -/
import Derived.Test.YtcejppibcemdeaaPWvD
namespace Go.Proofs.Ytcejppibcemdeaa
open Go.RowKit

set_option maxHeartbeats 1000000 in
theorem same_rows (a1 a2 : Option Addr) (cap1 cap2 : Nat) (es : List (Nat × Nat)) (hn : es.length ≤ 100000) (W : World) (h1 : ERow W a1 es) (h2 : ERow W a2 es) :
    Calls Try.prog 12 #[.slice a1 es.length cap1, .slice a2 es.length cap2] W fun e w' => e = .returned (.bool true) ∧ Below W.heap.size W w' := by
  have H1 : Hid (ERow W a1 es) := h1
  have H2 : Hid (ERow W a2 es) := h2
  clear h1 h2
  go_enter Try.func12, Try.ntmps12
  go_wp2_with fail
  go_loopw [5] (fun u wr => ∃ j : Nat, j ≤ es.length ∧ u = .int .i64 j ∧ Below W.heap.size W wr) (fun u _ => es.length - (intOf u).toNat)
  case atStart => exact ⟨0, Nat.zero_le _, rfl, Below.refl _ _⟩
  case round =>
    obtain ⟨j, hj, rfl, hD⟩ := hrel
    have HD : Hid (Below W.heap.size W wr) := hD
    by_cases hlt : j < es.length
    · obtain ⟨b, off, rfl, hb, c1, c0⟩ := H1.out.cells j hlt
      obtain ⟨b', off', rfl, hb', c1', c0'⟩ := H2.out.cells j hlt
      have d1 := keepc hD c1
      have d0 := keepc hD c0
      have d1' := keepc hD c1'
      have d0' := keepc hD c0'
      clear c1 c0 c1' c0' hD
      generalize es.getD j (0, 0) = x at *
      go_wp2_with fail
      go_region_held3 (fun w => w.cell? ⟨b, off + j * 2, none⟩ = some (.int .u64 (x.1 : Nat)) ∧ w.cell? ⟨b, off + j * 2 + 1, none⟩ = some (.int .u64 (x.2 : Nat)) ∧ w.cell? ⟨b', off' + j * 2, none⟩ = some (.int .u64 (x.1 : Nat)) ∧ w.cell? ⟨b', off' + j * 2 + 1, none⟩ = some (.int .u64 (x.2 : Nat))) (go_keep) (fail)
      go_wp2
      exact ⟨⟨j + 1, hlt, by simp, HD.out.drew⟩, by simp [intOf]; omega⟩
    · obtain rfl : j = es.length := by omega
      clear hD
      go_wp2
      go_ret
      exact ⟨rfl, HD.out⟩
end Go.Proofs.Ytcejppibcemdeaa
