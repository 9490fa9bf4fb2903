/- Contracts of a space's Point, Dim and Level, and of linpoly.Plain where there is none, over the seat's translation. -/
import Derived.Test.YtjdfbjdbfncofaaLpO
namespace Go.Proofs.Ytjdfbjdbfncofaa
open Go.RowKit

set_option maxHeartbeats 4000000 in
set_option maxRecDepth 100000 in
theorem spoint_any (l : Int) (p g n j : Nat) (es : List (Nat × Nat)) (W0 W : World) (h : Lies W0 W l p g n es) (h10 : n ≤ 10) (hj : j < 2 ^ n) (ht : ltE es) :
    Calls Try.prog 30 #[.pointer (some ⟨p, 0, none⟩), .int .i64 (j : Int)] W fun e w' => e = .returned (.agg #[.int .u64 ((ptv es j n).1 : Int), .int .u64 ((ptv es j n).2 : Int)]) ∧ Below W.heap.size W w' := by
  have h3 : 2 ^ n ≤ 2 ^ 10 := Nat.pow_le_pow_right (by decide) h10
  have HP : Hid (∀ w : World, Below W.heap.size W w → Calls Try.prog 49 #[.slice (some ⟨g, 0, none⟩) n n, .int .i64 (j : Int)] w fun e w' => e = .returned (.agg #[.int .u64 ((ptv es j n).1 : Int), .int .u64 ((ptv es j n).2 : Int)]) ∧ Below w.heap.size w w') := fun w hw => point_any j g n es w (erow_below h.row hw) h.hn h10 (by omega) ht
  have hw : IntKind.i64.wrap (2 ^ n) = (2 : Int) ^ n := by
    rw [IntKind.wrap_i64, show (2 : Int) ^ n = ((2 ^ n : Nat) : Int) by simp]
    generalize 2 ^ n = p at *
    omega
  have h2' : (j : Int) < (2 : Int) ^ n := by
    rw [show (2 : Int) ^ n = ((2 ^ n : Nat) : Int) by simp]
    omega
  have c1 := h.c1
  have hs : (n : Int) < 64 := by omega
  have hp := h.hp
  clear h h3 hj
  go_enter Try.func30, Try.ntmps30
  go_wp2_with fail
  have B0 : Below W.heap.size W (W.alloc (Obj.cells #[.int .u64 0, .int .u64 0] 24)) := (Below.refl _ _).alloc (Nat.le_refl _) _
  refine (HP.out _ B0).mono ?_
  rintro e w1 ⟨rfl, hb1⟩
  have R : Ew w1 W.heap.size 0 0 := Ew.below ⟨⟨by simp [go_sem], by simp [go_sem]⟩, by simp [go_sem], by simp [go_sem]⟩ hb1
  have D : Hid (Below W.heap.size W w1) := B0.trans (hb1.mono B0.size)
  obtain ⟨⟨r1, r0⟩, f1, f0⟩ := R
  clear hb1 B0 HP
  go_wp2
  refine bodyPost_ret (v := .agg #[.int .u64 ((ptv es j n).1 : Int), .int .u64 ((ptv es j n).2 : Int)]) (by simp [results, Try.results30, go_sem, *]) rfl ⟨rfl, ?_⟩
  exact (D.out.setCell (Nat.le_refl _) _).setCell (Nat.le_refl _) _
set_option maxHeartbeats 400000 in
theorem lin_level_no (l : Int) (h : ¬ (0 ≤ l ∧ l ≤ 7)) : Ret 47 #[.int .i64 l] (.bool false) := by
  intro W
  by_cases h0 : 0 ≤ l
  · have h7 : ¬ l ≤ 7 := fun h7 => h ⟨h0, h7⟩
    clear h
    go_enter Try.func47, Try.ntmps47
    go_wp2
    go_ret
    exact ⟨by simp, by first | exact Below.refl _ _ | go_grown⟩
  · clear h
    go_enter Try.func47, Try.ntmps47
    go_wp2
    go_ret
    exact ⟨by simp, by first | exact Below.refl _ _ | go_grown⟩
set_option maxHeartbeats 800000 in
theorem plain_level (l n : Int) (h : ¬ (0 ≤ l ∧ l ≤ 7)) : Ret 29 #[.int .i64 l, .int .i64 n] (.tuple #[.pointer none, .int .i64 1]) := by
  have HL : Hid (Ret 47 #[.int .i64 l] (.bool false)) := lin_level_no l h
  intro W
  go_enter Try.func29, Try.ntmps29
  go_wp2_with (go_at_call 47; refine (HL.out.go _).mono ?_; rintro e w1 ⟨rfl, hb1⟩)
  refine bodyPost_ret (v := .tuple #[.pointer none, .int .i64 1]) (by simp [results, Try.results29, go_sem]) rfl ⟨rfl, ?_⟩
  first | exact hb1 | trace_state
set_option maxHeartbeats 800000 in
theorem plain_neg (l n : Int) (h : 0 ≤ l ∧ l ≤ 7) (hn : n < 0) : Ret 29 #[.int .i64 l, .int .i64 n] (.tuple #[.pointer none, .int .i64 1]) := by
  have HL : Hid (Ret 47 #[.int .i64 l] (.bool true)) := lin_level l h
  clear h
  intro W
  go_enter Try.func29, Try.ntmps29
  go_wp2_with (go_at_call 47; refine (HL.out.go _).mono ?_; rintro e w1 ⟨rfl, hb1⟩)
  refine bodyPost_ret (v := .tuple #[.pointer none, .int .i64 1]) (by simp [results, Try.results29, go_sem]) rfl ⟨rfl, ?_⟩
  first | exact hb1 | trace_state
set_option maxHeartbeats 800000 in
theorem plain_long (l n : Int) (h : 0 ≤ l ∧ l ≤ 7) (hn : 10 < n) : Ret 29 #[.int .i64 l, .int .i64 n] (.tuple #[.pointer none, .int .i64 2]) := by
  have HL : Hid (Ret 47 #[.int .i64 l] (.bool true)) := lin_level l h
  clear h
  have hn0 : 0 ≤ n := by omega
  intro W
  go_enter Try.func29, Try.ntmps29
  go_wp2_with (go_at_call 47; refine (HL.out.go _).mono ?_; rintro e w1 ⟨rfl, hb1⟩)
  refine bodyPost_ret (v := .tuple #[.pointer none, .int .i64 2]) (by simp [results, Try.results29, go_sem]) rfl ⟨rfl, ?_⟩
  first | exact hb1 | trace_state
set_option maxHeartbeats 800000 in
theorem plain_rule (k n : Nat) (hk : k < 8) (hn : n ≤ 10) (h2 : 2 ^ k < n) : Ret 29 #[.int .i64 (k : Int), .int .i64 (n : Int)] (.tuple #[.pointer none, .int .i64 7]) := by
  have HL : Hid (Ret 47 #[.int .i64 (k : Int)] (.bool true)) := lin_level (k : Int) (by omega)
  have hw : IntKind.i64.wrap (2 ^ k) = ((2 ^ k : Nat) : Int) := by
    rw [IntKind.wrap_i64, show (2 : Int) ^ k = ((2 ^ k : Nat) : Int) by simp]
    generalize 2 ^ k = p at *
    omega
  have h2' : (2 : Int) ^ k < (n : Int) := by
    rw [show (2 : Int) ^ k = ((2 ^ k : Nat) : Int) by simp]
    omega
  clear h2
  intro W
  go_enter Try.func29, Try.ntmps29
  go_wp2_with (go_at_call 47; refine (HL.out.go _).mono ?_; rintro e w1 ⟨rfl, hb1⟩)
  refine bodyPost_ret (v := .tuple #[.pointer none, .int .i64 7]) (by simp [results, Try.results29, go_sem]) rfl ⟨rfl, ?_⟩
  first | exact hb1 | trace_state
end Go.Proofs.Ytjdfbjdbfncofaa
