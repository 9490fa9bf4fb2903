/- The worked example of layer 22 over the seat's translation. -/
import Derived.Test.YtefgkgmjhboobaaCmD
namespace Go.Proofs.Ytefgkgmjhboobaa
open Go.RowKit
open Cb
open Tw (pm)

theorem wtA0 : wt [(0, 2)] 0 = (0, 3) := by
  show pm (0, 1) (fac (0, 2) 0) = _
  rw [one_pm ⟨by decide, by decide⟩]
  decide
theorem wtA1 : wt [(0, 2)] 1 = (0, 2) := by
  show pm (0, 1) (fac (0, 2) 1) = _
  rw [one_pm ⟨by decide, by decide⟩]
  decide
theorem crA (c : Nat) (hc : c < 2) : cr false [(0, 2)] 0 0 c = wt [(0, 2)] c := by
  unfold cr
  simp only [List.length_cons, List.length_nil, Nat.zero_add, Nat.pow_one, Nat.zero_mod]
  simp only [xs]
  obtain rfl | rfl : c = 0 ∨ c = 1 := by omega
  · rw [if_pos (by decide), if_neg (by decide), xa_zero, zero_xa]
  · rw [if_neg (by decide), if_pos (by decide), xa_zero, zero_xa]
theorem mkA (c : Nat) (hc : c < 2) : mkI 2 [(0, 2)] (0, 3) [zst] 1 c = wt [(0, 2)] c := by
  unfold mkI adv
  rw [if_pos (by show 0 * 2 ≤ c ∧ c < 0 * 2 + 2; omega)]
  show xa (0, 0) (pm (0, 1) (el (crw 2 [(0, 2)] zst) (c - 0 * 2))) = _
  rw [Nat.zero_mul, Nat.sub_zero, zero_xa, one_pm (ltE_el (lt_crw _ _ _) _), crw_at 2 _ _ hc]
  unfold sgn
  rw [if_neg (by decide)]
  exact crA c hc
theorem mkA2 : (List.range 2).map (mkI 2 [(0, 2)] (0, 3) [zst] [zst].length) = [(0, 3), (0, 2)] := by
  rw [show List.range 2 = [0, 1] by decide]
  simp only [List.map_cons, List.map_nil, List.length_cons, List.length_nil, Nat.zero_add]
  rw [mkA 0 (by decide), mkA 1 (by decide), wtA0, wtA1]
theorem or1C {w : World} {b : Nat} (h0 : w.cell? ⟨b, 0, none⟩ = some (.int .i64 0)) (h1 : w.cell? ⟨b, 1, none⟩ = some (.int .i64 0)) (h2 : w.cell? ⟨b, 2, none⟩ = some (.int .i64 0)) (h3 : w.cell? ⟨b, 3, none⟩ = some (.int .u64 0)) (h4 : w.cell? ⟨b, 4, none⟩ = some (.int .u64 0)) : ORow w (some ⟨b, 0, none⟩) [zst] := ⟨fun i hi => by
  simp at hi
  have hb := cell_lt h0
  subst hi
  exact ⟨b, 0, rfl, hb, h0, h1, h2, h3, h4⟩⟩
theorem er1C {w : World} {b : Nat} {x : Nat × Nat} (h1 : w.cell? ⟨b, 0, none⟩ = some (.int .u64 (x.1 : Int))) (h2 : w.cell? ⟨b, 1, none⟩ = some (.int .u64 (x.2 : Int))) : ERow w (some ⟨b, 0, none⟩) [x] := ⟨fun i hi => by
  simp at hi
  have hb := cell_lt h1
  subst hi
  exact ⟨b, 0, rfl, hb, h1, h2⟩⟩
theorem er2C {w : World} {g : Nat} {x y : Nat × Nat} (h : ERow w (some ⟨g, 0, none⟩) [x, y]) : w.cell? ⟨g, 0, none⟩ = some (.int .u64 (x.1 : Int)) ∧ w.cell? ⟨g, 1, none⟩ = some (.int .u64 (x.2 : Int)) ∧ w.cell? ⟨g, 2, none⟩ = some (.int .u64 (y.1 : Int)) ∧ w.cell? ⟨g, 3, none⟩ = some (.int .u64 (y.2 : Int)) := by
  obtain ⟨b, o, e, _, c1, c0⟩ := h.cells 0 (by simp)
  obtain ⟨b', o', e', _, c1', c0'⟩ := h.cells 1 (by simp)
  injection e with e
  injection e with e1 e2
  subst e1 e2
  injection e' with e'
  injection e' with e1 e2
  subst e1 e2
  exact ⟨c1, c0, c1', c0'⟩
theorem chA : chE ((1 : Nat) : Int) ((0 : Nat) : Int) ((1 : Nat) : Int) [zst] [(0, 2)] (0, 3) = 0 := by decide +kernel
set_option maxHeartbeats 4000000 in
set_option maxRecDepth 100000 in
theorem awake22 : Ret 10 #[] (.bool true) := by
  intro W
  have HM : Hid (∀ (w : World) (b b2 cap cap2 : Nat), ORow w (some ⟨b, 0, none⟩) [zst] → ERow w (some ⟨b2, 0, none⟩) [(0, 2)] → Calls Try.prog 17 #[.int .i64 1, .int .i64 0, .int .i64 1, .slice (some ⟨b, 0, none⟩) 1 cap, .slice (some ⟨b2, 0, none⟩) 1 cap2, .agg #[.int .u64 0, .int .u64 3]] w fun e w' => ∃ g, e = .returned (.tuple #[.slice (some ⟨g, 0, none⟩) 2 2, .int .i64 0]) ∧ ERow w' (some ⟨g, 0, none⟩) [(0, 3), (0, 2)] ∧ Below w.heap.size w w') := fun w b b2 cap cap2 h1 h2 => by
    have := cmmask 1 0 1 2 2 (some ⟨b, 0, none⟩) (some ⟨b2, 0, none⟩) cap cap2 [zst] [(0, 2)] (0, 3) rfl rfl (by intro e he; simp at he; subst he; decide) ⟨by decide, by decide⟩ chA w h1 h2
    rw [mkA2] at this
    exact this
  go_enter Try.func10, Try.ntmps10
  go_wp2_with (go_at_call 17; refine (HM.out _ _ _ _ _ (or1C (by simp [go_sem]) (by simp [go_sem]) (by simp [go_sem]) (by simp [go_sem]) (by simp [go_sem])) (er1C (x := (0, 2)) (by simp [go_sem]) (by simp [go_sem]))).mono ?_; rintro e w1 ⟨g, rfl, hr1, hb1⟩; have K1 : Hid (Below W.heap.size W w1) := (((Below.refl W.heap.size W).alloc (Nat.le_refl _) _).alloc (by simp) _).trans (hb1.mono (by simp; omega)); obtain ⟨c1, c2, c3, c4⟩ := er2C hr1; clear hr1 hb1)
  go_ret
  exact ⟨rfl, K1.out⟩
end Go.Proofs.Ytefgkgmjhboobaa
