/- The walk of PermOne, over the seat's translation. -/
import Derived.Test.YtbmjceiogfhffaaPmL
namespace Go.Proofs.Ytbmjceiogfhffaa
open Go.RowKit

def ls : Nat → Nat
  | 0 => 2 | 1 => 3 | 2 => 4 | 3 => 5 | _ => 7
theorem ls_ok (k : Nat) (_ : k < 5) : ls k = 2 ∨ ls k = 3 ∨ ls k = 4 ∨ ls k = 5 ∨ ls k = 7 := by
  unfold ls
  split <;> simp
theorem ls_cells (w : World) (k : Nat) (hk : k < 5) : (w.alloc (Obj.cells #[.int .i64 2, .int .i64 3, .int .i64 4, .int .i64 5, .int .i64 7] 3)).cell? ⟨w.heap.size, k, none⟩ = some (.int .i64 ((ls k : Nat) : Int)) := by
  have : k = 0 ∨ k = 1 ∨ k = 2 ∨ k = 3 ∨ k = 4 := by omega
  rcases this with rfl | rfl | rfl | rfl | rfl <;> simp [go_sem, ls]
set_option maxHeartbeats 1600000 in
set_option maxRecDepth 100000 in
theorem po_ne (a b : Nat) (ha : a < 256) (hb : b < 256) (HN : Hid (¬ a = b)) (hab : ((a : Int) == (b : Int)) = false) : Ret 6 #[.int .u8 (a : Int), .int .u8 (b : Int)] (.bool true) := by
  intro W
  have HI : Hid (∀ k, k < 5 → ls k = 2 ∨ ls k = 3 ∨ ls k = 4 ∨ ls k = 5 ∨ ls k = 7) := ls_ok
  go_enter Try.func6, Try.ntmps6
  go_wp2_with (go_at_call 9; refine (make_any _).mono ?_; rintro e w1 ⟨g, rfl, hg, ht, hb1⟩; have HT : Hid (Hold W w1 g) := ⟨ht, hb1⟩; clear ht hb1)
  go_wp2_with (first | (go_at_call 10; refine (awake10.go _).mono ?_; rintro e w2 ⟨rfl, hb2⟩; have HT2 : Hid (Hold W w2 g) := HT.out.below hb2; clear HT hb2; have HT := HT2; clear HT2))
  have HC : Hid (∀ k, k < 5 → (w2.alloc (Obj.cells #[.int .i64 2, .int .i64 3, .int .i64 4, .int .i64 5, .int .i64 7] 3)).cell? ⟨w2.heap.size, k, none⟩ = some (.int .i64 ((ls k : Nat) : Int))) := ls_cells w2
  have HT2 : Hid (Hold W (w2.alloc (Obj.cells #[.int .i64 2, .int .i64 3, .int .i64 4, .int .i64 5, .int .i64 7] 3)) g) := HT.out.below ((Below.refl _ _).alloc (Nat.le_refl _) _)
  clear HT
  generalize w2.heap.size = p at *
  go_loopw [7] (fun u wr => ∃ i : Nat, i ≤ 5 ∧ u = .int .i64 i ∧ Hid (∀ k, k < 5 → wr.cell? ⟨p, k, none⟩ = some (.int .i64 ((ls k : Nat) : Int))) ∧ Hid (Hold W wr g)) (fun u _ => 5 - (intOf u).toNat)
  case atStart => exact ⟨0, by omega, rfl, HC, HT2⟩
  case round =>
    obtain ⟨i, hi, rfl, HC2, HT⟩ := hrel
    clear HC HT2
    by_cases hlt : i < 5
    · have hc := HC2.out i hlt
      have hl := HI.out i hlt
      have HX : Hid (∀ w, Tab w g → Calls Try.prog 14 #[.pointer (some ⟨g, 0, none⟩), .int .i64 ((ls i : Nat) : Int), .int .u8 (a : Int)] w fun e w' => e = .returned (.int .u8 ((tmul (ls i) a : Nat) : Int)) ∧ w' = w) := fun w h => by have := timesm_any g (ls i) a (by omega) (by omega) w h; rw [tmv_ok (by rcases hl with h | h | h | h | h <;> rw [h] <;> rfl)] at this; exact this
      have HY : Hid (∀ w, Tab w g → Calls Try.prog 14 #[.pointer (some ⟨g, 0, none⟩), .int .i64 ((ls i : Nat) : Int), .int .u8 (b : Int)] w fun e w' => e = .returned (.int .u8 ((tmul (ls i) b : Nat) : Int)) ∧ w' = w) := fun w h => by have := timesm_any g (ls i) b (by omega) (by omega) w h; rw [tmv_ok (by rcases hl with h | h | h | h | h <;> rw [h] <;> rfl)] at this; exact this
      have hne : ¬ tmul (ls i) a = tmul (ls i) b := fun h => HN.out (tmul_inj hl (by omega) (by omega) h)
      generalize tmul (ls i) a = x at *
      generalize tmul (ls i) b = y at *
      have hxy : ((x : Int) == (y : Int)) = false := by simp; omega
      have hxy2 : ¬ (x : Int) = (y : Int) := by omega
      clear hl
      generalize ls i = L at *
      have hi1 : (0 : Int) ≤ (i : Int) := by omega
      have hi2 : (i : Int) < 5 := by omega
      go_wp2
      go_region_held3 (fun w => w.cell? ⟨p, i, none⟩ = some (.int .i64 (L : Int))) (go_keep) (first | (go_at_call_of 14 (Value.int .u8 (a : Int)); refine (HX.out wr.drew HT.out.t).mono ?_; rintro e w3 ⟨rfl, rfl⟩) | (go_at_call_of 14 (Value.int .u8 (b : Int)); refine (HY.out wr.drew HT.out.t).mono ?_; rintro e w3 ⟨rfl, rfl⟩))
      go_wp2
      exact ⟨⟨i + 1, hlt, by simp, HC2, ⟨HT.out.t, HT.out.d.drew⟩⟩, by simp [intOf]; omega⟩
    · have hnl : ¬ ((i : Int) < 5) := by omega
      have HX : Hid (∀ w, Tab w g → Calls Try.prog 12 #[.pointer (some ⟨g, 0, none⟩), .int .u8 (a : Int)] w fun e w' => e = .returned (.int .u8 ((bx a : Nat) : Int)) ∧ w' = w) := fun w h => boxm_any g a (by omega) w h
      have HY2 : Hid (∀ w, Tab w g → Calls Try.prog 12 #[.pointer (some ⟨g, 0, none⟩), .int .u8 (b : Int)] w fun e w' => e = .returned (.int .u8 ((bx b : Nat) : Int)) ∧ w' = w) := fun w h => boxm_any g b (by omega) w h
      have hne : ¬ bx a = bx b := fun h => HN.out (bx_inj (by omega) (by omega) h)
      generalize bx a = x at *
      generalize bx b = y at *
      have hxy : ((x : Int) == (y : Int)) = false := by simp; omega
      have hxy2 : ¬ (x : Int) = (y : Int) := by omega
      go_wp2_with (first | (go_at_call_of 12 (Value.int .u8 (a : Int)); refine (HX.out _ HT.out.t).mono ?_; rintro e w3 ⟨rfl, rfl⟩) | (go_at_call_of 12 (Value.int .u8 (b : Int)); refine (HY2.out _ HT.out.t).mono ?_; rintro e w3 ⟨rfl, rfl⟩))
      go_ret
      exact ⟨rfl, HT.out.d⟩
set_option maxHeartbeats 1600000 in
set_option maxRecDepth 100000 in
theorem po_eq (a : Nat) (ha : a < 256) : Ret 6 #[.int .u8 (a : Int), .int .u8 (a : Int)] (.bool true) := by
  intro W
  have HI : Hid (∀ k, k < 5 → ls k = 2 ∨ ls k = 3 ∨ ls k = 4 ∨ ls k = 5 ∨ ls k = 7) := ls_ok
  go_enter Try.func6, Try.ntmps6
  go_wp2_with (go_at_call 9; refine (make_any _).mono ?_; rintro e w1 ⟨g, rfl, hg, ht, hb1⟩; have HT : Hid (Hold W w1 g) := ⟨ht, hb1⟩; clear ht hb1)
  go_wp2_with (first | (go_at_call 10; refine (awake10.go _).mono ?_; rintro e w2 ⟨rfl, hb2⟩; have HT2 : Hid (Hold W w2 g) := HT.out.below hb2; clear HT hb2; have HT := HT2; clear HT2))
  have HC : Hid (∀ k, k < 5 → (w2.alloc (Obj.cells #[.int .i64 2, .int .i64 3, .int .i64 4, .int .i64 5, .int .i64 7] 3)).cell? ⟨w2.heap.size, k, none⟩ = some (.int .i64 ((ls k : Nat) : Int))) := ls_cells w2
  have HT2 : Hid (Hold W (w2.alloc (Obj.cells #[.int .i64 2, .int .i64 3, .int .i64 4, .int .i64 5, .int .i64 7] 3)) g) := HT.out.below ((Below.refl _ _).alloc (Nat.le_refl _) _)
  clear HT
  generalize w2.heap.size = p at *
  go_loopw [7] (fun u wr => ∃ i : Nat, i ≤ 5 ∧ u = .int .i64 i ∧ Hid (∀ k, k < 5 → wr.cell? ⟨p, k, none⟩ = some (.int .i64 ((ls k : Nat) : Int))) ∧ Hid (Hold W wr g)) (fun u _ => 5 - (intOf u).toNat)
  case atStart => exact ⟨0, by omega, rfl, HC, HT2⟩
  case round =>
    obtain ⟨i, hi, rfl, HC2, HT⟩ := hrel
    clear HC HT2
    by_cases hlt : i < 5
    · have hc := HC2.out i hlt
      have hl := HI.out i hlt
      have HX : Hid (∀ w, Tab w g → Calls Try.prog 14 #[.pointer (some ⟨g, 0, none⟩), .int .i64 ((ls i : Nat) : Int), .int .u8 (a : Int)] w fun e w' => e = .returned (.int .u8 ((tmul (ls i) a : Nat) : Int)) ∧ w' = w) := fun w h => by have := timesm_any g (ls i) a (by omega) (by omega) w h; rw [tmv_ok (by rcases hl with h | h | h | h | h <;> rw [h] <;> rfl)] at this; exact this
      generalize tmul (ls i) a = x at *
      clear hl
      generalize ls i = L at *
      have hi1 : (0 : Int) ≤ (i : Int) := by omega
      have hi2 : (i : Int) < 5 := by omega
      go_wp2
      go_region_held3 (fun w => w.cell? ⟨p, i, none⟩ = some (.int .i64 (L : Int))) (go_keep) (first | (go_at_call_of 14 (Value.int .u8 (a : Int)); refine (HX.out wr.drew HT.out.t).mono ?_; rintro e w3 ⟨rfl, rfl⟩))
      go_wp2
      exact ⟨⟨i + 1, hlt, by simp, HC2, ⟨HT.out.t, HT.out.d.drew⟩⟩, by simp [intOf]; omega⟩
    · have hnl : ¬ ((i : Int) < 5) := by omega
      have HX : Hid (∀ w, Tab w g → Calls Try.prog 12 #[.pointer (some ⟨g, 0, none⟩), .int .u8 (a : Int)] w fun e w' => e = .returned (.int .u8 ((bx a : Nat) : Int)) ∧ w' = w) := fun w h => boxm_any g a (by omega) w h
      generalize bx a = x at *
      go_wp2_with (first | (go_at_call_of 12 (Value.int .u8 (a : Int)); refine (HX.out _ HT.out.t).mono ?_; rintro e w3 ⟨rfl, rfl⟩))
      go_ret
      exact ⟨rfl, HT.out.d⟩
theorem po_any (a b : Nat) (ha : a < 256) (hb : b < 256) : Ret 6 #[.int .u8 (a : Int), .int .u8 (b : Int)] (.bool true) := by
  by_cases h : a = b
  · subst h
    exact po_eq a ha
  · exact po_ne a b ha hb h (by simp; omega)
end Go.Proofs.Ytbmjceiogfhffaa
