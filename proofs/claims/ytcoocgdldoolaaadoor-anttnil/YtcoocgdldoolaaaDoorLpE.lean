/- Contracts of linpoly.allOf, slices.Clone and linpoly's Dim, has and Value over the seat's translation. -/
import Derived.Test.YtcoocgdldoolaaaDoorLpB
import Derived.BigQuiet
namespace Go.Proofs.YtcoocgdldoolaaaDoor
open Go.RowKit

theorem flat_one (es : List (Nat × Nat)) : ∀ u ∈ flat es, u.oneCell' = true := by
  intro u hu
  unfold flat at hu
  obtain ⟨e, _, he⟩ := List.mem_flatMap.1 hu
  simp at he
  rcases he with rfl | rfl <;> rfl
theorem ERow.flatAt {w : World} {b off : Nat} {es : List (Nat × Nat)} (h : ERow w (some ⟨b, off, none⟩) es) (j : Nat) (u : Value) (hu : (flat es)[j]? = some u) : w.cell? ((⟨b, off, none⟩ : Addr).add j) = some u := by
  have hj : j < es.length * 2 := by
    rw [← flat_len]
    obtain ⟨h1, _⟩ := List.getElem?_eq_some_iff.1 hu
    exact h1
  have ha : (⟨b, off, none⟩ : Addr).add j = ⟨b, off + j, none⟩ := by unfold Addr.add; split <;> simp_all
  rw [ha]
  have hi : j / 2 < es.length := by omega
  obtain ⟨b2, off2, e, _, c1, c0⟩ := h.cells (j / 2) hi
  have hf := flat_at es (j / 2) hi
  simp only [Option.some.injEq, Addr.mk.injEq] at e
  obtain ⟨rfl, rfl, _⟩ := e
  rcases Nat.mod_two_eq_zero_or_one j with h2 | h2
  · have e2 : j / 2 * 2 = j := by omega
    rw [e2] at c1 hf
    rw [hf.1] at hu
    rw [c1]; exact hu
  · have e2 : j / 2 * 2 + 1 = j := by omega
    rw [Nat.add_assoc, e2] at c0
    rw [e2] at hf
    rw [hf.2] at hu
    rw [c0]; exact hu
set_option maxHeartbeats 1000000 in
set_option maxRecDepth 100000 in
/-- A copy of elements. -/
theorem clone_row (b off cap : Nat) (es : List (Nat × Nat)) (h10 : es.length ≤ 1000) (W : World) (hr : ERow W (some ⟨b, off, none⟩) es) :
    Calls Tryd.prog 9 #[.slice (some ⟨b, off, none⟩) es.length cap] W fun e w' => ∃ a' cap', e = .returned (.slice a' es.length cap') ∧ ERow w' a' es ∧ Below W.heap.size W w' := by
  obtain ⟨i0, hi, hz0, hz1, hz2⟩ := info_elem
  have HI : Hid (Tryd.prog.info? 25 = some i0 ∧ i0.zero = some (.agg #[.int .u64 0, .int .u64 0]) ∧ i0.size = 2 ∧ i0.bytes = 16) := ⟨hi, hz0, hz1, hz2⟩
  have HR : Hid (ERow W (some ⟨b, off, none⟩) es) := hr
  clear hi hz0 hz1 hz2 hr
  have he : ∀ w, (binOp .eql 22 (.slice (some ⟨b, off, none⟩) es.length cap) (.slice none 0 0)).run Tryd.prog w = .ok (.bool false) w := fun w => Go.Lib.run_eql_slice_nil w 22 25 _ _ _ _ _ Tryd.underlying22
  go_enter Tryd.func9, Tryd.ntmps9
  go_wp2_with (at_builtin; refine wpList_append_own _ rfl _ _ 22 rfl W.heap.size 25 i0 (.agg #[.int .u64 0, .int .u64 0]) 2 16 Tryd.underlying22 HI.out.1 HI.out.2.1 HI.out.2.2.1 HI.out.2.2.2 rfl (by decide) _ 0 [] rfl (World.ownsRow_made W #[] 0 (Nat.le_refl _) (by decide) rfl) ⟨b, off, none⟩ es.length cap (flat es) rfl (flat_len es) (fun p u hu => ((HR.out.below ((Below.refl _ _).alloc (Nat.le_refl _) _)).flatAt p u hu)) (flat_one es) (by simp only [maxLen]; omega) (by omega) (by simp) ?_; intro v' w' hown' hgr _)
  rw [Nat.zero_add, List.nil_append] at hown'
  obtain ⟨a', cap', rfl, hE⟩ := own_row hown'
  have HD : Hid (Below W.heap.size W w') := ((Below.refl _ _).alloc (Nat.le_refl _) _).grown hgr (by simp) fun k hk => ((World.ownsRow_made (e := 25) (size := 2) (base := W.heap.size) W #[] 0 (Nat.le_refl _) (by decide) rfl).lt k hk).1
  have HE : Hid (ERow w' a' es) := hE
  clear hE hown' hgr
  go_wp2
  go_ret
  exact ⟨a', cap', rfl, HE.out, HD.out⟩
set_option maxHeartbeats 400000 in
theorem dim_any (B n cap : Nat) (a : Option Addr) (W : World) (c1 : W.cell? ⟨B, 1, none⟩ = some (.slice a n cap)) : Calls Tryd.prog 20 #[.pointer (some ⟨B, 0, none⟩)] W fun e w' => e = .returned (.int .i64 (n : Int)) ∧ Below W.heap.size W w' := by
  go_enter Tryd.func20, Tryd.ntmps20
  go_wp2
  go_ret
  exact ⟨rfl, by first | exact Below.refl _ _ | go_grown⟩
end Go.Proofs.YtcoocgdldoolaaaDoor
