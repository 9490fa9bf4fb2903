/- Contracts of linpoly.allOf, slices.Clone and linpoly's Dim, has and Value over the seat's translation. -/
import Derived.Test.YtacnmaeaabekgabDoorLpB
import Derived.BigQuiet
namespace Go.Proofs.YtacnmaeaabekgabDoor
open Go.RowKit

theorem flat_one (es : List (Nat × Nat)) : ∀ u ∈ flat es, u.oneCell' = true := by
  intro u hu
  unfold flat at hu
  obtain ⟨e, _, he⟩ := List.mem_flatMap.1 hu
  simp at he
  rcases he with rfl | rfl <;> rfl
theorem ERow.flatAt {w : World} {b off : Nat} {es : List (Nat × Nat)} (h : ERow w (some ⟨b, off, none⟩) es) (j : Nat) (u : Value) (hu : (flat es)[j]? = some u) : w.cell? ((⟨b, off, none⟩ : Addr).add j) = some u := by
  have hj : j < es.length * 2 := by
    rw [← flat_len]
    obtain ⟨h1, _⟩ := List.getElem?_eq_some_iff.1 hu
    exact h1
  have ha : (⟨b, off, none⟩ : Addr).add j = ⟨b, off + j, none⟩ := by unfold Addr.add; split <;> simp_all
  rw [ha]
  have hi : j / 2 < es.length := by omega
  obtain ⟨b2, off2, e, _, c1, c0⟩ := h.cells (j / 2) hi
  have hf := flat_at es (j / 2) hi
  simp only [Option.some.injEq, Addr.mk.injEq] at e
  obtain ⟨rfl, rfl, _⟩ := e
  rcases Nat.mod_two_eq_zero_or_one j with h2 | h2
  · have e2 : j / 2 * 2 = j := by omega
    rw [e2] at c1 hf
    rw [hf.1] at hu
    rw [c1]; exact hu
  · have e2 : j / 2 * 2 + 1 = j := by omega
    rw [Nat.add_assoc, e2] at c0
    rw [e2] at hf
    rw [hf.2] at hu
    rw [c0]; exact hu
set_option maxHeartbeats 2000000 in
/-- Are all elements of a level? -/
theorem allOf_row (l : Int) (a : Option Addr) (cap : Nat) (es : List (Nat × Nat)) (W : World) (hr : ERow W a es) (h10 : es.length ≤ 1000) (HO : Hid (∀ j : Nat, j < es.length → Ret 54 #[.int .i64 l, .agg #[.int .u64 ((es.getD j (0, 0)).1 : Int), .int .u64 ((es.getD j (0, 0)).2 : Int)]] (.bool true))) :
    Calls Tryd.prog 67 #[.int .i64 l, .slice a es.length cap] W fun e w' => e = .returned (.bool true) ∧ Below W.heap.size W w' := by
  have HR : Hid (ERow W a es) := hr
  clear hr
  go_enter Tryd.func67, Tryd.ntmps67
  go_wp2_with fail
  go_loopw [9] (fun u wr => ∃ j : Nat, j ≤ es.length ∧ u = .int .i64 j ∧ Below W.heap.size W wr) (fun u _ => es.length - (intOf u).toNat)
  case atStart => exact ⟨0, Nat.zero_le _, rfl, Below.refl _ _⟩
  case round =>
    obtain ⟨j, hj, rfl, hD⟩ := hrel
    by_cases hlt : j < es.length
    · obtain ⟨b, off, rfl, hb, c1, c0⟩ := HR.out.cells j hlt
      have d1 : wr.cell? ⟨b, off + j * 2, none⟩ = some (.int .u64 ((es.getD j (0, 0)).1 : Nat)) := by rw [hD.cell (p := ⟨b, off + j * 2, none⟩) hb]; exact c1
      have d0 : wr.cell? ⟨b, off + j * 2 + 1, none⟩ = some (.int .u64 ((es.getD j (0, 0)).2 : Nat)) := by rw [hD.cell (p := ⟨b, off + j * 2 + 1, none⟩) hb]; exact c0
      have H1 := HO.out j hlt
      have HD : Hid (Below W.heap.size W wr) := hD
      clear hD c1 c0 HR HO
      generalize es.getD j (0, 0) = x at *
      go_wp2_with fail
      refine (H1.go _).mono ?_
      rintro e w4 ⟨rfl, hb4⟩
      have HD4 : Hid (Below W.heap.size W w4) := (HD.out.alloc HD.out.size _).trans (hb4.mono (by have := HD.out.size; simp; omega))
      clear hb4 d1 d0 HD
      go_wp2
      exact ⟨⟨j + 1, hlt, by simp, HD4.out⟩, by simp [intOf]; omega⟩
    · have HD : Hid (Below W.heap.size W wr) := hD
      clear hD
      go_wp2
      go_ret
      exact ⟨rfl, HD.out⟩
set_option maxHeartbeats 1000000 in
set_option maxRecDepth 100000 in
/-- A copy of elements. -/
theorem clone_row (b off cap : Nat) (es : List (Nat × Nat)) (h10 : es.length ≤ 1000) (W : World) (hr : ERow W (some ⟨b, off, none⟩) es) :
    Calls Tryd.prog 39 #[.slice (some ⟨b, off, none⟩) es.length cap] W fun e w' => ∃ a' cap', e = .returned (.slice a' es.length cap') ∧ ERow w' a' es ∧ Below W.heap.size W w' := by
  obtain ⟨i0, hi, hz0, hz1, hz2⟩ := info_elem
  have HI : Hid (Tryd.prog.info? 37 = some i0 ∧ i0.zero = some (.agg #[.int .u64 0, .int .u64 0]) ∧ i0.size = 2 ∧ i0.bytes = 16) := ⟨hi, hz0, hz1, hz2⟩
  have HR : Hid (ERow W (some ⟨b, off, none⟩) es) := hr
  clear hi hz0 hz1 hz2 hr
  have he : ∀ w, (binOp .eql 25 (.slice (some ⟨b, off, none⟩) es.length cap) (.slice none 0 0)).run Tryd.prog w = .ok (.bool false) w := fun w => Go.Lib.run_eql_slice_nil w 25 37 _ _ _ _ _ Tryd.underlying25
  go_enter Tryd.func39, Tryd.ntmps39
  go_wp2_with (at_builtin; refine wpList_append_own _ rfl _ _ 25 rfl W.heap.size 37 i0 (.agg #[.int .u64 0, .int .u64 0]) 2 16 Tryd.underlying25 HI.out.1 HI.out.2.1 HI.out.2.2.1 HI.out.2.2.2 rfl (by decide) _ 0 [] rfl (World.ownsRow_made W #[] 0 (Nat.le_refl _) (by decide) rfl) ⟨b, off, none⟩ es.length cap (flat es) rfl (flat_len es) (fun p u hu => ((HR.out.below ((Below.refl _ _).alloc (Nat.le_refl _) _)).flatAt p u hu)) (flat_one es) (by simp only [maxLen]; omega) (by omega) (by simp) ?_; intro v' w' hown' hgr _)
  rw [Nat.zero_add, List.nil_append] at hown'
  obtain ⟨a', cap', rfl, hE⟩ := own_row hown'
  have HD : Hid (Below W.heap.size W w') := ((Below.refl _ _).alloc (Nat.le_refl _) _).grown hgr (by simp) fun k hk => ((World.ownsRow_made (e := 37) (size := 2) (base := W.heap.size) W #[] 0 (Nat.le_refl _) (by decide) rfl).lt k hk).1
  have HE : Hid (ERow w' a' es) := hE
  clear hE hown' hgr
  go_wp2
  go_ret
  exact ⟨a', cap', rfl, HE.out, HD.out⟩
set_option maxHeartbeats 400000 in
theorem dim_any (B n cap : Nat) (a : Option Addr) (W : World) (c1 : W.cell? ⟨B, 1, none⟩ = some (.slice a n cap)) : Calls Tryd.prog 61 #[.pointer (some ⟨B, 0, none⟩)] W fun e w' => e = .returned (.int .i64 (n : Int)) ∧ Below W.heap.size W w' := by
  go_enter Tryd.func61, Tryd.ntmps61
  go_wp2
  go_ret
  exact ⟨rfl, by first | exact Below.refl _ _ | go_grown⟩
end Go.Proofs.YtacnmaeaabekgabDoor
