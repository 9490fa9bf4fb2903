/- The walks of PermTables and PermOne, over the seat's translation. -/
import Derived.Test.YtbmjceiogfhffaaPmH
namespace Go.Proofs.Ytbmjceiogfhffaa
open Go.RowKit

theorem Tab.below {w w' : World} {g : Nat} (h : Tab w g) (hb : Below w.heap.size w w') : Tab w' g := Tabs.below h hb
theorem tmv_ok {k : Nat} (h : tok k = true) (b : Nat) : tmv k b = tmul k b := by unfold tmv; rw [if_pos h]
theorem tmv_no {k : Nat} (h : tok k = false) (b : Nat) : tmv k b = 0 := by unfold tmv; rw [if_neg (by rw [h]; decide)]
/-- The tables lie at g, and what lay there in W is as it was. -/
structure Hold (W w : World) (g : Nat) : Prop where
  t : Tab w g
  d : Below W.heap.size W w
theorem Hold.below {W w w' : World} {g : Nat} (h : Hold W w g) (hb : Below w.heap.size w w') : Hold W w' g := ⟨h.t.below hb, h.d.trans (hb.mono h.d.size)⟩
set_option maxHeartbeats 800000 in
set_option maxRecDepth 100000 in
theorem pt_2 (b : Nat) (hb : b < 256) : Ret 3 #[.int .u8 (b : Int), .int .i64 2] (.bool true) := by
  intro W
  have HR : Hid (Ret 13 #[.int .i64 (b : Int)] (.int .i64 ((bx b : Nat) : Int))) := rbox_any b hb
  have HB0 : Hid (∀ g w, Tab w g → Calls Try.prog 12 #[.pointer (some ⟨g, 0, none⟩), .int .u8 (b : Int)] w fun e w' => e = .returned (.int .u8 ((bx b : Nat) : Int)) ∧ w' = w) := fun g w h => boxm_any g b hb w h
  have HW : Hid (Ret 11 #[.int .i64 2, .int .i64 (b : Int)] (.int .i64 ((tmul 2 b : Nat) : Int))) := rtim_any 2 b (by decide) hb
  have HM0 : Hid (∀ g w, Tab w g → Calls Try.prog 14 #[.pointer (some ⟨g, 0, none⟩), .int .i64 2, .int .u8 (b : Int)] w fun e w' => e = .returned (.int .u8 ((tmul 2 b : Nat) : Int)) ∧ w' = w) := fun g w h => by have := timesm_any g 2 b (by decide) hb w h; rw [tmv_ok (by decide)] at this; exact this
  have l2 := tmul_lt 2 b
  generalize tmul 2 b = y at *
  have h3 : IntKind.i64.wrap (y : Int) = (y : Int) := by rw [IntKind.wrap_i64]; omega
  have l1 := bx_lt b
  generalize bx b = x at *
  have w1 : IntKind.i64.wrap (b : Int) = (b : Int) := by rw [IntKind.wrap_i64]; omega
  have w2 : IntKind.i64.wrap (x : Int) = (x : Int) := by rw [IntKind.wrap_i64]; omega
  go_enter Try.func3, Try.ntmps3
  go_wp2_with (go_at_call 9; refine (make_any _).mono ?_; rintro e w1 ⟨g, rfl, hg, ht, hb1⟩; have HT : Hid (Hold W w1 g) := ⟨ht, hb1⟩; clear ht hb1)
  replace HB0 : Hid (∀ w, Tab w g → Calls Try.prog 12 #[.pointer (some ⟨g, 0, none⟩), .int .u8 (b : Int)] w fun e w' => e = .returned (.int .u8 (x : Int)) ∧ w' = w) := HB0.out g
  replace HM0 : Hid (∀ w, Tab w g → Calls Try.prog 14 #[.pointer (some ⟨g, 0, none⟩), .int .i64 2, .int .u8 (b : Int)] w fun e w' => e = .returned (.int .u8 (y : Int)) ∧ w' = w) := HM0.out g
  go_wp2_with (first | (go_at_call 10; refine (awake10.go _).mono ?_; rintro e w2 ⟨rfl, hb2⟩; have HT2 : Hid (Hold W w2 g) := HT.out.below hb2; clear HT hb2; have HT := HT2; clear HT2) | (go_at_call 12; refine (HB0.out _ HT.out.t).mono ?_; rintro e w2 ⟨rfl, rfl⟩) | (go_at_call 14; refine (HM0.out _ HT.out.t).mono ?_; rintro e w2 ⟨rfl, rfl⟩) | (go_at_call 13; refine (HR.out.go _).mono ?_; rintro e w2 ⟨rfl, hb2⟩; have HT2 : Hid (Hold W w2 g) := HT.out.below hb2; clear HT hb2; have HT := HT2; clear HT2) | (go_at_call 11; refine (HW.out.go _).mono ?_; rintro e w2 ⟨rfl, hb2⟩; have HT2 : Hid (Hold W w2 g) := HT.out.below hb2; clear HT hb2; have HT := HT2; clear HT2))
  go_ret
  exact ⟨rfl, HT.out.d⟩
set_option maxHeartbeats 800000 in
set_option maxRecDepth 100000 in
theorem pt_3 (b : Nat) (hb : b < 256) : Ret 3 #[.int .u8 (b : Int), .int .i64 3] (.bool true) := by
  intro W
  have HR : Hid (Ret 13 #[.int .i64 (b : Int)] (.int .i64 ((bx b : Nat) : Int))) := rbox_any b hb
  have HB0 : Hid (∀ g w, Tab w g → Calls Try.prog 12 #[.pointer (some ⟨g, 0, none⟩), .int .u8 (b : Int)] w fun e w' => e = .returned (.int .u8 ((bx b : Nat) : Int)) ∧ w' = w) := fun g w h => boxm_any g b hb w h
  have HW : Hid (Ret 11 #[.int .i64 3, .int .i64 (b : Int)] (.int .i64 ((tmul 3 b : Nat) : Int))) := rtim_any 3 b (by decide) hb
  have HM0 : Hid (∀ g w, Tab w g → Calls Try.prog 14 #[.pointer (some ⟨g, 0, none⟩), .int .i64 3, .int .u8 (b : Int)] w fun e w' => e = .returned (.int .u8 ((tmul 3 b : Nat) : Int)) ∧ w' = w) := fun g w h => by have := timesm_any g 3 b (by decide) hb w h; rw [tmv_ok (by decide)] at this; exact this
  have l2 := tmul_lt 3 b
  generalize tmul 3 b = y at *
  have h3 : IntKind.i64.wrap (y : Int) = (y : Int) := by rw [IntKind.wrap_i64]; omega
  have l1 := bx_lt b
  generalize bx b = x at *
  have w1 : IntKind.i64.wrap (b : Int) = (b : Int) := by rw [IntKind.wrap_i64]; omega
  have w2 : IntKind.i64.wrap (x : Int) = (x : Int) := by rw [IntKind.wrap_i64]; omega
  go_enter Try.func3, Try.ntmps3
  go_wp2_with (go_at_call 9; refine (make_any _).mono ?_; rintro e w1 ⟨g, rfl, hg, ht, hb1⟩; have HT : Hid (Hold W w1 g) := ⟨ht, hb1⟩; clear ht hb1)
  replace HB0 : Hid (∀ w, Tab w g → Calls Try.prog 12 #[.pointer (some ⟨g, 0, none⟩), .int .u8 (b : Int)] w fun e w' => e = .returned (.int .u8 (x : Int)) ∧ w' = w) := HB0.out g
  replace HM0 : Hid (∀ w, Tab w g → Calls Try.prog 14 #[.pointer (some ⟨g, 0, none⟩), .int .i64 3, .int .u8 (b : Int)] w fun e w' => e = .returned (.int .u8 (y : Int)) ∧ w' = w) := HM0.out g
  go_wp2_with (first | (go_at_call 10; refine (awake10.go _).mono ?_; rintro e w2 ⟨rfl, hb2⟩; have HT2 : Hid (Hold W w2 g) := HT.out.below hb2; clear HT hb2; have HT := HT2; clear HT2) | (go_at_call 12; refine (HB0.out _ HT.out.t).mono ?_; rintro e w2 ⟨rfl, rfl⟩) | (go_at_call 14; refine (HM0.out _ HT.out.t).mono ?_; rintro e w2 ⟨rfl, rfl⟩) | (go_at_call 13; refine (HR.out.go _).mono ?_; rintro e w2 ⟨rfl, hb2⟩; have HT2 : Hid (Hold W w2 g) := HT.out.below hb2; clear HT hb2; have HT := HT2; clear HT2) | (go_at_call 11; refine (HW.out.go _).mono ?_; rintro e w2 ⟨rfl, hb2⟩; have HT2 : Hid (Hold W w2 g) := HT.out.below hb2; clear HT hb2; have HT := HT2; clear HT2))
  go_ret
  exact ⟨rfl, HT.out.d⟩
set_option maxHeartbeats 800000 in
set_option maxRecDepth 100000 in
theorem pt_4 (b : Nat) (hb : b < 256) : Ret 3 #[.int .u8 (b : Int), .int .i64 4] (.bool true) := by
  intro W
  have HR : Hid (Ret 13 #[.int .i64 (b : Int)] (.int .i64 ((bx b : Nat) : Int))) := rbox_any b hb
  have HB0 : Hid (∀ g w, Tab w g → Calls Try.prog 12 #[.pointer (some ⟨g, 0, none⟩), .int .u8 (b : Int)] w fun e w' => e = .returned (.int .u8 ((bx b : Nat) : Int)) ∧ w' = w) := fun g w h => boxm_any g b hb w h
  have HW : Hid (Ret 11 #[.int .i64 4, .int .i64 (b : Int)] (.int .i64 ((tmul 4 b : Nat) : Int))) := rtim_any 4 b (by decide) hb
  have HM0 : Hid (∀ g w, Tab w g → Calls Try.prog 14 #[.pointer (some ⟨g, 0, none⟩), .int .i64 4, .int .u8 (b : Int)] w fun e w' => e = .returned (.int .u8 ((tmul 4 b : Nat) : Int)) ∧ w' = w) := fun g w h => by have := timesm_any g 4 b (by decide) hb w h; rw [tmv_ok (by decide)] at this; exact this
  have l2 := tmul_lt 4 b
  generalize tmul 4 b = y at *
  have h3 : IntKind.i64.wrap (y : Int) = (y : Int) := by rw [IntKind.wrap_i64]; omega
  have l1 := bx_lt b
  generalize bx b = x at *
  have w1 : IntKind.i64.wrap (b : Int) = (b : Int) := by rw [IntKind.wrap_i64]; omega
  have w2 : IntKind.i64.wrap (x : Int) = (x : Int) := by rw [IntKind.wrap_i64]; omega
  go_enter Try.func3, Try.ntmps3
  go_wp2_with (go_at_call 9; refine (make_any _).mono ?_; rintro e w1 ⟨g, rfl, hg, ht, hb1⟩; have HT : Hid (Hold W w1 g) := ⟨ht, hb1⟩; clear ht hb1)
  replace HB0 : Hid (∀ w, Tab w g → Calls Try.prog 12 #[.pointer (some ⟨g, 0, none⟩), .int .u8 (b : Int)] w fun e w' => e = .returned (.int .u8 (x : Int)) ∧ w' = w) := HB0.out g
  replace HM0 : Hid (∀ w, Tab w g → Calls Try.prog 14 #[.pointer (some ⟨g, 0, none⟩), .int .i64 4, .int .u8 (b : Int)] w fun e w' => e = .returned (.int .u8 (y : Int)) ∧ w' = w) := HM0.out g
  go_wp2_with (first | (go_at_call 10; refine (awake10.go _).mono ?_; rintro e w2 ⟨rfl, hb2⟩; have HT2 : Hid (Hold W w2 g) := HT.out.below hb2; clear HT hb2; have HT := HT2; clear HT2) | (go_at_call 12; refine (HB0.out _ HT.out.t).mono ?_; rintro e w2 ⟨rfl, rfl⟩) | (go_at_call 14; refine (HM0.out _ HT.out.t).mono ?_; rintro e w2 ⟨rfl, rfl⟩) | (go_at_call 13; refine (HR.out.go _).mono ?_; rintro e w2 ⟨rfl, hb2⟩; have HT2 : Hid (Hold W w2 g) := HT.out.below hb2; clear HT hb2; have HT := HT2; clear HT2) | (go_at_call 11; refine (HW.out.go _).mono ?_; rintro e w2 ⟨rfl, hb2⟩; have HT2 : Hid (Hold W w2 g) := HT.out.below hb2; clear HT hb2; have HT := HT2; clear HT2))
  go_ret
  exact ⟨rfl, HT.out.d⟩
set_option maxHeartbeats 800000 in
set_option maxRecDepth 100000 in
theorem pt_5 (b : Nat) (hb : b < 256) : Ret 3 #[.int .u8 (b : Int), .int .i64 5] (.bool true) := by
  intro W
  have HR : Hid (Ret 13 #[.int .i64 (b : Int)] (.int .i64 ((bx b : Nat) : Int))) := rbox_any b hb
  have HB0 : Hid (∀ g w, Tab w g → Calls Try.prog 12 #[.pointer (some ⟨g, 0, none⟩), .int .u8 (b : Int)] w fun e w' => e = .returned (.int .u8 ((bx b : Nat) : Int)) ∧ w' = w) := fun g w h => boxm_any g b hb w h
  have HW : Hid (Ret 11 #[.int .i64 5, .int .i64 (b : Int)] (.int .i64 ((tmul 5 b : Nat) : Int))) := rtim_any 5 b (by decide) hb
  have HM0 : Hid (∀ g w, Tab w g → Calls Try.prog 14 #[.pointer (some ⟨g, 0, none⟩), .int .i64 5, .int .u8 (b : Int)] w fun e w' => e = .returned (.int .u8 ((tmul 5 b : Nat) : Int)) ∧ w' = w) := fun g w h => by have := timesm_any g 5 b (by decide) hb w h; rw [tmv_ok (by decide)] at this; exact this
  have l2 := tmul_lt 5 b
  generalize tmul 5 b = y at *
  have h3 : IntKind.i64.wrap (y : Int) = (y : Int) := by rw [IntKind.wrap_i64]; omega
  have l1 := bx_lt b
  generalize bx b = x at *
  have w1 : IntKind.i64.wrap (b : Int) = (b : Int) := by rw [IntKind.wrap_i64]; omega
  have w2 : IntKind.i64.wrap (x : Int) = (x : Int) := by rw [IntKind.wrap_i64]; omega
  go_enter Try.func3, Try.ntmps3
  go_wp2_with (go_at_call 9; refine (make_any _).mono ?_; rintro e w1 ⟨g, rfl, hg, ht, hb1⟩; have HT : Hid (Hold W w1 g) := ⟨ht, hb1⟩; clear ht hb1)
  replace HB0 : Hid (∀ w, Tab w g → Calls Try.prog 12 #[.pointer (some ⟨g, 0, none⟩), .int .u8 (b : Int)] w fun e w' => e = .returned (.int .u8 (x : Int)) ∧ w' = w) := HB0.out g
  replace HM0 : Hid (∀ w, Tab w g → Calls Try.prog 14 #[.pointer (some ⟨g, 0, none⟩), .int .i64 5, .int .u8 (b : Int)] w fun e w' => e = .returned (.int .u8 (y : Int)) ∧ w' = w) := HM0.out g
  go_wp2_with (first | (go_at_call 10; refine (awake10.go _).mono ?_; rintro e w2 ⟨rfl, hb2⟩; have HT2 : Hid (Hold W w2 g) := HT.out.below hb2; clear HT hb2; have HT := HT2; clear HT2) | (go_at_call 12; refine (HB0.out _ HT.out.t).mono ?_; rintro e w2 ⟨rfl, rfl⟩) | (go_at_call 14; refine (HM0.out _ HT.out.t).mono ?_; rintro e w2 ⟨rfl, rfl⟩) | (go_at_call 13; refine (HR.out.go _).mono ?_; rintro e w2 ⟨rfl, hb2⟩; have HT2 : Hid (Hold W w2 g) := HT.out.below hb2; clear HT hb2; have HT := HT2; clear HT2) | (go_at_call 11; refine (HW.out.go _).mono ?_; rintro e w2 ⟨rfl, hb2⟩; have HT2 : Hid (Hold W w2 g) := HT.out.below hb2; clear HT hb2; have HT := HT2; clear HT2))
  go_ret
  exact ⟨rfl, HT.out.d⟩
set_option maxHeartbeats 800000 in
set_option maxRecDepth 100000 in
theorem pt_7 (b : Nat) (hb : b < 256) : Ret 3 #[.int .u8 (b : Int), .int .i64 7] (.bool true) := by
  intro W
  have HR : Hid (Ret 13 #[.int .i64 (b : Int)] (.int .i64 ((bx b : Nat) : Int))) := rbox_any b hb
  have HB0 : Hid (∀ g w, Tab w g → Calls Try.prog 12 #[.pointer (some ⟨g, 0, none⟩), .int .u8 (b : Int)] w fun e w' => e = .returned (.int .u8 ((bx b : Nat) : Int)) ∧ w' = w) := fun g w h => boxm_any g b hb w h
  have HW : Hid (Ret 11 #[.int .i64 7, .int .i64 (b : Int)] (.int .i64 ((tmul 7 b : Nat) : Int))) := rtim_any 7 b (by decide) hb
  have HM0 : Hid (∀ g w, Tab w g → Calls Try.prog 14 #[.pointer (some ⟨g, 0, none⟩), .int .i64 7, .int .u8 (b : Int)] w fun e w' => e = .returned (.int .u8 ((tmul 7 b : Nat) : Int)) ∧ w' = w) := fun g w h => by have := timesm_any g 7 b (by decide) hb w h; rw [tmv_ok (by decide)] at this; exact this
  have l2 := tmul_lt 7 b
  generalize tmul 7 b = y at *
  have h3 : IntKind.i64.wrap (y : Int) = (y : Int) := by rw [IntKind.wrap_i64]; omega
  have l1 := bx_lt b
  generalize bx b = x at *
  have w1 : IntKind.i64.wrap (b : Int) = (b : Int) := by rw [IntKind.wrap_i64]; omega
  have w2 : IntKind.i64.wrap (x : Int) = (x : Int) := by rw [IntKind.wrap_i64]; omega
  go_enter Try.func3, Try.ntmps3
  go_wp2_with (go_at_call 9; refine (make_any _).mono ?_; rintro e w1 ⟨g, rfl, hg, ht, hb1⟩; have HT : Hid (Hold W w1 g) := ⟨ht, hb1⟩; clear ht hb1)
  replace HB0 : Hid (∀ w, Tab w g → Calls Try.prog 12 #[.pointer (some ⟨g, 0, none⟩), .int .u8 (b : Int)] w fun e w' => e = .returned (.int .u8 (x : Int)) ∧ w' = w) := HB0.out g
  replace HM0 : Hid (∀ w, Tab w g → Calls Try.prog 14 #[.pointer (some ⟨g, 0, none⟩), .int .i64 7, .int .u8 (b : Int)] w fun e w' => e = .returned (.int .u8 (y : Int)) ∧ w' = w) := HM0.out g
  go_wp2_with (first | (go_at_call 10; refine (awake10.go _).mono ?_; rintro e w2 ⟨rfl, hb2⟩; have HT2 : Hid (Hold W w2 g) := HT.out.below hb2; clear HT hb2; have HT := HT2; clear HT2) | (go_at_call 12; refine (HB0.out _ HT.out.t).mono ?_; rintro e w2 ⟨rfl, rfl⟩) | (go_at_call 14; refine (HM0.out _ HT.out.t).mono ?_; rintro e w2 ⟨rfl, rfl⟩) | (go_at_call 13; refine (HR.out.go _).mono ?_; rintro e w2 ⟨rfl, hb2⟩; have HT2 : Hid (Hold W w2 g) := HT.out.below hb2; clear HT hb2; have HT := HT2; clear HT2) | (go_at_call 11; refine (HW.out.go _).mono ?_; rintro e w2 ⟨rfl, hb2⟩; have HT2 : Hid (Hold W w2 g) := HT.out.below hb2; clear HT hb2; have HT := HT2; clear HT2))
  go_ret
  exact ⟨rfl, HT.out.d⟩
set_option maxHeartbeats 800000 in
set_option maxRecDepth 100000 in
theorem pt_else (k : Int) (b : Nat) (hb : b < 256) (h2 : ¬ k = 2) (h3 : ¬ k = 3) (h4 : ¬ k = 4) (h5 : ¬ k = 5) (h7 : ¬ k = 7) : Ret 3 #[.int .u8 (b : Int), .int .i64 (k : Int)] (.bool true) := by
  intro W
  have HR : Hid (Ret 13 #[.int .i64 (b : Int)] (.int .i64 ((bx b : Nat) : Int))) := rbox_any b hb
  have HB0 : Hid (∀ g w, Tab w g → Calls Try.prog 12 #[.pointer (some ⟨g, 0, none⟩), .int .u8 (b : Int)] w fun e w' => e = .returned (.int .u8 ((bx b : Nat) : Int)) ∧ w' = w) := fun g w h => boxm_any g b hb w h
  have e2 : (k == 2) = false := by simp [h2]
  have e3 : (k == 3) = false := by simp [h3]
  have e4 : (k == 4) = false := by simp [h4]
  have e5 : (k == 5) = false := by simp [h5]
  have e7 : (k == 7) = false := by simp [h7]
  have HM0 : Hid (∀ g w, Tab w g → Calls Try.prog 14 #[.pointer (some ⟨g, 0, none⟩), .int .i64 k, .int .u8 (b : Int)] w fun e w' => e = .returned (.int .u8 0) ∧ w' = w) := fun g w h => by
    by_cases ho : k < 0 ∨ 8 ≤ k
    · exact timesm_out g k b ho w
    · obtain ⟨n, rfl⟩ : ∃ n : Nat, k = (n : Int) := ⟨k.toNat, by omega⟩
      have := timesm_any g n b (by omega) hb w h
      have e : n = 0 ∨ n = 1 ∨ n = 6 := by omega
      rw [tmv_no (by rcases e with rfl | rfl | rfl <;> decide)] at this
      exact this
  have l1 := bx_lt b
  generalize bx b = x at *
  have w1 : IntKind.i64.wrap (b : Int) = (b : Int) := by rw [IntKind.wrap_i64]; omega
  have w2 : IntKind.i64.wrap (x : Int) = (x : Int) := by rw [IntKind.wrap_i64]; omega
  go_enter Try.func3, Try.ntmps3
  go_wp2_with (go_at_call 9; refine (make_any _).mono ?_; rintro e w1 ⟨g, rfl, hg, ht, hb1⟩; have HT : Hid (Hold W w1 g) := ⟨ht, hb1⟩; clear ht hb1)
  replace HB0 : Hid (∀ w, Tab w g → Calls Try.prog 12 #[.pointer (some ⟨g, 0, none⟩), .int .u8 (b : Int)] w fun e w' => e = .returned (.int .u8 (x : Int)) ∧ w' = w) := HB0.out g
  replace HM0 : Hid (∀ w, Tab w g → Calls Try.prog 14 #[.pointer (some ⟨g, 0, none⟩), .int .i64 k, .int .u8 (b : Int)] w fun e w' => e = .returned (.int .u8 0) ∧ w' = w) := HM0.out g
  go_wp2_with (first | (go_at_call 10; refine (awake10.go _).mono ?_; rintro e w2 ⟨rfl, hb2⟩; have HT2 : Hid (Hold W w2 g) := HT.out.below hb2; clear HT hb2; have HT := HT2; clear HT2) | (go_at_call 12; refine (HB0.out _ HT.out.t).mono ?_; rintro e w2 ⟨rfl, rfl⟩) | (go_at_call 14; refine (HM0.out _ HT.out.t).mono ?_; rintro e w2 ⟨rfl, rfl⟩) | (go_at_call 13; refine (HR.out.go _).mono ?_; rintro e w2 ⟨rfl, hb2⟩; have HT2 : Hid (Hold W w2 g) := HT.out.below hb2; clear HT hb2; have HT := HT2; clear HT2))
  go_ret
  exact ⟨rfl, HT.out.d⟩
theorem pt_any (k : Int) (b : Nat) (hb : b < 256) : Ret 3 #[.int .u8 (b : Int), .int .i64 k] (.bool true) := by
  by_cases h2 : k = 2
  · subst h2; exact pt_2 b hb
  by_cases h3 : k = 3
  · subst h3; exact pt_3 b hb
  by_cases h4 : k = 4
  · subst h4; exact pt_4 b hb
  by_cases h5 : k = 5
  · subst h5; exact pt_5 b hb
  by_cases h7 : k = 7
  · subst h7; exact pt_7 b hb
  exact pt_else k b hb h2 h3 h4 h5 h7
end Go.Proofs.Ytbmjceiogfhffaa
