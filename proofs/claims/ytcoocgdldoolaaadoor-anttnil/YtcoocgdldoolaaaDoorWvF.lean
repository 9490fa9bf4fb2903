/- Contracts of slices.Clone, weave.Cut and steeplelaw09.awake over the seat's translation. -/
import Derived.Test.YtcoocgdldoolaaaDoorWvD
import Derived.Test.YtcoocgdldoolaaaDoorWvB
namespace Go.Proofs.YtcoocgdldoolaaaDoor
open Go.RowKit

theorem flat_ones (es : List (Nat × Nat)) : ∀ u ∈ flat es, u.oneCell' = true := by
  intro u hu
  unfold flat at hu
  obtain ⟨e, _, he⟩ := List.mem_flatMap.1 hu
  simp at he
  rcases he with rfl | rfl <;> rfl
theorem ERow.flatOn {w : World} {b off : Nat} {es : List (Nat × Nat)} (h : ERow w (some ⟨b, off, none⟩) es) (j : Nat) (u : Value) (hu : (flat es)[j]? = some u) : w.cell? ((⟨b, off, none⟩ : Addr).add j) = some u := by
  have hj : j < es.length * 2 := by
    rw [← flat_len]
    obtain ⟨h1, _⟩ := List.getElem?_eq_some_iff.1 hu
    exact h1
  have ha : (⟨b, off, none⟩ : Addr).add j = ⟨b, off + j, none⟩ := by unfold Addr.add; split <;> simp_all
  rw [ha]
  have hi : j / 2 < es.length := by omega
  obtain ⟨b2, off2, e, _, c1, c0⟩ := h.cells (j / 2) hi
  have hf := flat_at es (j / 2) hi
  simp only [Option.some.injEq, Addr.mk.injEq] at e
  obtain ⟨rfl, rfl, _⟩ := e
  rcases Nat.mod_two_eq_zero_or_one j with h2 | h2
  · have e2 : j / 2 * 2 = j := by omega
    rw [e2] at c1 hf
    rw [hf.1] at hu
    rw [c1]; exact hu
  · have e2 : j / 2 * 2 + 1 = j := by omega
    rw [Nat.add_assoc, e2] at c0
    rw [e2] at hf
    rw [hf.2] at hu
    rw [c0]; exact hu
/-- A row of one's own, as elements. -/
theorem own_elems {w : World} {base : Nat} {T : TypeId} {v : Value} {es : List (Nat × Nat)} (h : w.ownsRow base T 2 v es.length (flat es)) :
    ∃ a b cap, v = .slice a es.length cap ∧ (es.length = 0 ∨ a = some ⟨b, 0, none⟩) ∧ es.length ≤ cap ∧ ERow w a es := by
  obtain ⟨a', cap', e, hE⟩ := own_row h
  rcases h.2 with ⟨h1, h0⟩ | ⟨g, cap, cur, e2, _, _, hn, _⟩
  · refine ⟨a', 0, cap', e, .inl h0, by omega, hE⟩
  · rw [e2] at e
    injection e with e3 e4 e5
    subst e3 e5
    exact ⟨_, g, cap, e2, .inr rfl, hn, hE⟩
set_option maxHeartbeats 1000000 in
set_option maxRecDepth 100000 in
/-- A copy of elements. -/
theorem cloned (a : Option Addr) (cap : Nat) (es : List (Nat × Nat)) (h10 : es.length ≤ 100000) (ha : a = none → es.length = 0 ∧ cap = 0) (W : World) (hr : ERow W a es) :
    Calls Tryd.prog 9 #[.slice a es.length cap] W fun e w' => ∃ a' b' cap', e = .returned (.slice a' es.length cap') ∧ (es.length = 0 ∨ a' = some ⟨b', 0, none⟩) ∧ es.length ≤ cap' ∧ ERow w' a' es ∧ Below W.heap.size W w' := by
  rcases a with _ | x
  · obtain ⟨h1, h2⟩ := ha rfl
    obtain rfl : es = [] := List.eq_nil_of_length_eq_zero h1
    subst h2
    clear hr ha
    have he : ∀ w, (binOp .eql 22 (.slice none 0 0) (.slice none 0 0)).run Tryd.prog w = .ok (.bool true) w := fun w => Go.Lib.run_eql_slice_nil w 22 25 _ _ _ _ _ Tryd.underlying22
    go_enter Tryd.func9, Tryd.ntmps9
    go_wp2
    go_ret
    exact ⟨none, 0, 0, rfl, .inl (by first | rfl | trivial), Nat.zero_le _, ⟨fun i hi => by simp at hi⟩, Below.refl _ _⟩
  · obtain ⟨i0, hi, hz0, hz1, hz2⟩ := info_elem
    have HI : Hid (Tryd.prog.info? 25 = some i0 ∧ i0.zero = some (.agg #[.int .u64 0, .int .u64 0]) ∧ i0.size = 2 ∧ i0.bytes = 16) := ⟨hi, hz0, hz1, hz2⟩
    have HR : Hid (∀ w, Below W.heap.size W w → ∀ p u, (flat es)[p]? = some u → w.cell? (x.add p) = some u) := by
      intro w hb p u hu
      rcases Nat.eq_zero_or_pos es.length with h | h
      · rw [List.eq_nil_of_length_eq_zero h] at hu; simp [flat] at hu
      · obtain ⟨b, off, e, _⟩ := hr.cells 0 h
        injection e with e
        subst e
        exact (hr.below hb).flatOn p u hu
    clear hi hz0 hz1 hz2 hr ha
    have he : ∀ w, (binOp .eql 22 (.slice (some x) es.length cap) (.slice none 0 0)).run Tryd.prog w = .ok (.bool false) w := fun w => Go.Lib.run_eql_slice_nil w 22 25 _ _ _ _ _ Tryd.underlying22
    go_enter Tryd.func9, Tryd.ntmps9
    go_wp2_with (at_builtin; refine wpList_append_own _ rfl _ _ 22 rfl W.heap.size 25 i0 (.agg #[.int .u64 0, .int .u64 0]) 2 16 Tryd.underlying22 HI.out.1 HI.out.2.1 HI.out.2.2.1 HI.out.2.2.2 rfl (by decide) _ 0 [] rfl (World.ownsRow_made W #[] 0 (Nat.le_refl _) (by decide) rfl) x es.length cap (flat es) rfl (flat_len es) (fun p u hu => HR.out _ ((Below.refl _ _).alloc (Nat.le_refl _) _) p u hu) (flat_ones es) (by simp only [maxLen]; omega) (by omega) (by simp) ?_; intro v' w' hown' hgr _)
    rw [Nat.zero_add, List.nil_append] at hown'
    obtain ⟨a', b', cap', rfl, h1, h2, hE⟩ := own_elems hown'
    have HD : Hid (Below W.heap.size W w') := ((Below.refl _ _).alloc (Nat.le_refl _) _).grown hgr (by simp) fun k hk => ((World.ownsRow_made (e := 25) (size := 2) (base := W.heap.size) W #[] 0 (Nat.le_refl _) (by decide) rfl).lt k hk).1
    have HE : Hid (ERow w' a' es ∧ (es.length = 0 ∨ a' = some ⟨b', 0, none⟩) ∧ es.length ≤ cap') := ⟨hE, h1, h2⟩
    clear hE hown' hgr h1 h2
    go_wp2
    go_ret
    exact ⟨a', b', cap', rfl, HE.out.2.1, HE.out.2.2, HE.out.1, HD.out⟩
theorem own_base {w : World} {base base' : Nat} {T : TypeId} {size n : Nat} {v : Value} {xs : List Value} (h : w.ownsRow base T size v n xs) (hb : base' ≤ base) : w.ownsRow base' T size v n xs := by
  obtain ⟨h1, h2⟩ := h
  refine ⟨h1, ?_⟩
  rcases h2 with h3 | ⟨g, cap, cur, e, hbb, rest⟩
  · exact .inl h3
  · exact .inr ⟨g, cap, cur, e, Nat.le_trans hb hbb, rest⟩
end Go.Proofs.YtcoocgdldoolaaaDoor
