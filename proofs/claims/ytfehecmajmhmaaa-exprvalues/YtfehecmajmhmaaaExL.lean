/- The contracts of steeplelaw16.example and awake over the seat's translation; ExprChecks: the walk of the law. -/
import Derived.Test.YtfehecmajmhmaaaExK
import Derived.Test.YtfehecmajmhmaaaExI
namespace Go.Proofs.Ytfehecmajmhmaaa
open Go.RowKit
open Cb
open Tw (pm)

/-- The page's example. -/
def exl : List Stp := [⟨2, 0, 0, (0, 0)⟩, ⟨2, 1, 0, (0, 0)⟩, ⟨4, 0, 1, (0, 0)⟩, ⟨1, 0, 0, (0, 1)⟩, ⟨3, 2, 3, (0, 0)⟩]
theorem exl_ok : ∀ o ∈ exl, o.ok := by
  intro o ho
  simp [exl] at ho
  rcases ho with rfl | rfl | rfl | rfl | rfl <;> exact ⟨by decide, by decide⟩
set_option maxRecDepth 100000 in
set_option maxHeartbeats 2000000 in
theorem ex_ok (W : World) : Calls Try.prog 24 #[] W fun e w' => ∃ g, e = .returned (.slice (some ⟨g, 0, none⟩) 5 5) ∧ ORow w' (some ⟨g, 0, none⟩) exl ∧ Below W.heap.size W w' := by
  go_enter Try.func24, Try.ntmps24
  go_wp2
  refine bodyPost_ret (v := .slice (some ⟨W.heap.size, 0, none⟩) 5 5) (by simp [results, Try.results24, go_sem, *]) rfl ⟨W.heap.size, rfl, ⟨fun i hi => ⟨W.heap.size, 0, rfl, by simp, ?_⟩⟩, by go_grown⟩
  have hi' : i < 5 := hi
  obtain rfl | rfl | rfl | rfl | rfl : i = 0 ∨ i = 1 ∨ i = 2 ∨ i = 3 ∨ i = 4 := by omega
  all_goals (refine ⟨?_, ?_, ?_, ?_, ?_⟩ <;> simp [go_sem, exl])
theorem ex_chk : chk 1 2 exl = 0 := by decide +kernel
theorem ex_chk7 : chk 7 9223372036854775807 exl = 0 := by decide +kernel
theorem ex_deg : dfun exl 4 = 2 := by decide +kernel
theorem ex_val : vfun [(0, 2), (0, 2)] exl 4 = (0, 2) := by decide +kernel
theorem erow22 {w : World} {b : Nat} (h0 : w.cell? ⟨b, 0, none⟩ = some (.int .u64 0)) (h1 : w.cell? ⟨b, 1, none⟩ = some (.int .u64 2)) (h2 : w.cell? ⟨b, 2, none⟩ = some (.int .u64 0)) (h3 : w.cell? ⟨b, 3, none⟩ = some (.int .u64 2)) : ERow w (some ⟨b, 0, none⟩) [(0, 2), (0, 2)] := ⟨fun i hi => by
  have hi' : i < 2 := hi
  refine ⟨b, 0, rfl, cell_lt h0, ?_⟩
  rw [Nat.zero_add]
  obtain rfl | rfl : i = 0 ∨ i = 1 := by omega
  · exact ⟨h0, h1⟩
  · exact ⟨h2, h3⟩⟩
set_option maxHeartbeats 4000000 in
set_option maxRecDepth 100000 in
theorem awake16 : Ret 7 #[] (.bool true) := by
  intro W
  have HX : Hid (∀ w, Calls Try.prog 24 #[] w fun e w' => ∃ g, e = .returned (.slice (some ⟨g, 0, none⟩) 5 5) ∧ ORow w' (some ⟨g, 0, none⟩) exl ∧ Below w.heap.size w w') := ex_ok
  have HE : Hid (∀ w sa ea, ORow w sa exl → ERow w ea [(0, 2), (0, 2)] → Calls Try.prog 14 #[.int .i64 1, .slice sa 5 5, .slice ea 2 2] w fun e w' => e = .returned (.tuple #[.agg #[.int .u64 0, .int .u64 2], .int .i64 0]) ∧ Below w.heap.size w w') := fun w sa ea h1 h2 => by
    have := xeval_ok 1 (by decide) sa ea 5 2 exl [(0, 2), (0, 2)] exl_ok (fun e he => by simp at he; subst he; exact ⟨by decide, by decide⟩) (by decide) w h1 h2 (by decide) ex_chk (fun e he => by simp at he; subst he; show ofB _ _ _ = true; decide +kernel)
    rw [show exl.length - 1 = 4 from rfl, ex_val] at this
    exact this
  have HD : Hid (∀ w sa, ORow w sa exl → Calls Try.prog 12 #[.slice sa 5 5] w fun e w' => e = .returned (.int .i64 2) ∧ Below w.heap.size w w') := fun w sa h1 => by
    have := xdegree sa 5 exl exl_ok (by decide) w h1
    rw [if_pos ex_chk7, show exl.length - 1 = 4 from rfl, ex_deg] at this
    exact this
  go_enter Try.func7, Try.ntmps7
  go_wp2_with (first
    | (go_at_call 12; refine (HD.out _ _ R3).mono ?_; rintro e w4 ⟨rfl, hb4⟩; have K4 : El w4 w2.heap.size 0 2 ∧ Below W.heap.size W w4 := ⟨K3.out.1.below hb4, K3.out.2.trans (hb4.mono K3.out.2.size)⟩; obtain ⟨⟨z1, z2⟩, D4⟩ := K4; have D5 : Hid (Below W.heap.size W w4) := D4; clear hb4 R3 K3 D4)
    | (go_at_call 14; refine (HE.out _ _ _ (R1.below ((Below.refl _ _).alloc (Nat.le_refl _) _)) (erow22 (by simp [go_sem]) (by simp [go_sem]) (by simp [go_sem]) (by simp [go_sem]))).mono ?_; rintro e w2 ⟨rfl, hb2⟩; have D2 : Hid (Below W.heap.size W w2) := (D1.out.alloc D1.out.size _).trans (hb2.mono (by have := D1.out.size; simp; omega)); clear hb2 R1 D1)
    | (go_at_call 24; refine (HX.out _).mono ?_; rintro e w3 ⟨g3, rfl, R3, hb3⟩; have K3 : Hid (El w3 w2.heap.size 0 2 ∧ Below W.heap.size W w3) := ⟨El.below ⟨by simp [go_sem], by simp [go_sem]⟩ hb3, (D2.out.alloc D2.out.size _).trans (hb3.mono (by have := D2.out.size; simp; omega))⟩; clear hb3 D2)
    | (go_at_call 24; refine (HX.out _).mono ?_; rintro e w1 ⟨g, rfl, R1, hb1⟩; have D1 : Hid (Below W.heap.size W w1) := hb1; clear hb1))
  go_ret
  exact ⟨rfl, D5.out⟩
end Go.Proofs.Ytfehecmajmhmaaa
