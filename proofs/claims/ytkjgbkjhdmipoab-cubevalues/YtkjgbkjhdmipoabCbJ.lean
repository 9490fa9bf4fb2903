/- The walk of CubeValues over the seat's translation. -/
import Derived.Test.YtkjgbkjhdmipoabCbI
namespace Go.Proofs.Ytkjgbkjhdmipoab
open Go.RowKit
open Cb
open Tw (pm)

theorem cv_far (l : Int) (a c : Option Addr) (cap cap2 n m : Nat) (h : 70 < n ∨ 8 < m) (W : World) :
    Calls Try.prog 3 #[.int .i64 l, .slice a n cap, .slice c m cap2] W fun e w' => e = .returned (.bool true) ∧ Below W.heap.size W w' := by
  have AW := awake15
  by_cases h1 : 70 < n
  · have h1' : (70 : Int) < (n : Int) := by omega
    clear h
    go_enter Try.func3, Try.ntmps3
    go_wp2_with (go_at_call 6; refine (AW.go _).mono ?_; rintro e w1 ⟨rfl, hb1⟩)
    go_ret
    exact ⟨rfl, hb1⟩
  · have h1' : ¬ (70 : Int) < (n : Int) := by omega
    have h2' : (8 : Int) < (m : Int) := by omega
    clear h
    go_enter Try.func3, Try.ntmps3
    go_wp2_with (go_at_call 6; refine (AW.go _).mono ?_; rintro e w1 ⟨rfl, hb1⟩)
    go_ret
    exact ⟨rfl, hb1⟩
set_option maxHeartbeats 2000000 in
theorem cv_arg (l : Int) (a c : Option Addr) (cap cap2 : Nat) (t p : List (Nat × Nat)) (ht : ltE t) (hp : ltE p) (h1 : t.length ≤ 70) (h2 : p.length ≤ 8) (hF : fiE l t p = 1) (W : World) (ha : ERow W a t) (hc : ERow W c p)
    (HAt : Hid (Calls Try.prog 7 #[.int .i64 l, .slice a t.length cap, .slice c p.length cap2] W fun e w' => e = .returned (.tuple #[.agg #[.int .u64 ((0, 0).1 : Int), .int .u64 ((0, 0).2 : Int)], .int .i64 1]) ∧ Below W.heap.size W w')) :
    Calls Try.prog 3 #[.int .i64 l, .slice a t.length cap, .slice c p.length cap2] W fun e w' => e = .returned (.bool true) ∧ Below W.heap.size W w' := by
  have AW := awake15
  have HR1 : Hid (∀ w, Below W.heap.size W w → Calls Try.prog 8 #[.slice a t.length cap] w fun e w' => ∃ a' cap', e = .returned (.slice a' t.length cap') ∧ ERow w' a' t ∧ Below w.heap.size w w') := fun w hb => ref_row a cap t (by omega) w (ha.below hb)
  have HR2 : Hid (∀ w, Below W.heap.size W w → Calls Try.prog 8 #[.slice c p.length cap2] w fun e w' => ∃ a' cap', e = .returned (.slice a' p.length cap') ∧ ERow w' a' p ∧ Below w.heap.size w w') := fun w hb => ref_row c cap2 p (by omega) w (hc.below hb)
  have HM : Hid (∀ (w : World) (ax ay : Option Addr) (cx cy : Nat), ERow w ax t → ERow w ay p → Calls Try.prog 9 #[.int .i64 l, .slice ax t.length cx, .slice ay p.length cy] w fun e w' => e = .returned (.int .i64 1) ∧ Below w.heap.size w w') := fun w ax ay cx cy hx hy => by
    rw [← hF]; exact rmay_any l ax ay cx cy t p ht hp (by omega) (by omega) w hx hy
  have HL : Hid (Ret 10 #[.int .i64 (t.length : Int)] (.int .i64 (lgz t.length))) := by
    have := rlog_any t.length
    exact this
  have HV : Hid (∀ (w : World) (ax ay : Option Addr) (cx cy : Nat), ERow w ax t → ERow w ay p → Calls Try.prog 11 #[.slice ax t.length cx, .slice ay p.length cy] w fun e w' => e = .returned (.agg #[.int .u64 ((vl t p).1 : Int), .int .u64 ((vl t p).2 : Int)]) ∧ Below w.heap.size w w') := fun w ax ay cx cy hx hy => rvalue_any ax ay cx cy t p ht hp (by omega) (by omega) w hx hy
  have g1 : ¬ (70 : Int) < (t.length : Int) := by omega
  have g2 : ¬ (8 : Int) < (p.length : Int) := by omega
  clear ha hc ht hp hF
  generalize t.length = n at *
  generalize p.length = m at *
  generalize vl t p = vv at *
  go_enter Try.func3, Try.ntmps3
  go_wp2_with (first | (go_at_call 7; refine HAt.out.mono ?_; rintro e w1 ⟨rfl, hb1⟩; have K1 : Hid (Cvs W (w1.alloc (Obj.cells #[.int .u64 ((0, 0).1 : Int), .int .u64 ((0, 0).2 : Int)] 26)) w1.heap.size (0, 0)) := ⟨El.new w1 (0, 0) _, hb1.alloc hb1.size _⟩; clear hb1) | (go_at_call_of 8 (#[.slice a n cap] : Array Value); refine (HR1.out _ K1.out.d).mono ?_; rintro e w2 ⟨ax, cx, rfl, hx, hb2⟩; have K2 : Hid (Cvs W w2 w1.heap.size (0, 0) ∧ ERow w2 ax t) := ⟨K1.out.below hb2, hx⟩; clear hx hb2 HR1) | (go_at_call 8; refine (HR2.out _ K2.out.1.d).mono ?_; rintro e w3 ⟨ay, cy, rfl, hy, hb3⟩; have K3 : Hid (Cvs W w3 w1.heap.size (0, 0) ∧ ERow w3 ax t ∧ ERow w3 ay p) := ⟨K2.out.1.below hb3, K2.out.2.below hb3, hy⟩; clear hy hb3) | (go_at_call 9; refine (HM.out _ ax ay cx cy K3.out.2.1 K3.out.2.2).mono ?_; rintro e w4 ⟨rfl, hb4⟩; have K4 : Hid (Cvs W w4 w1.heap.size (0, 0) ∧ ERow w4 ax t ∧ ERow w4 ay p) := ⟨K3.out.1.below hb4, K3.out.2.1.below hb4, K3.out.2.2.below hb4⟩; clear hb4) | (go_at_call 6; refine (AW.go _).mono ?_; rintro e w6 ⟨rfl, hba⟩; have K6 : Hid (Cvs W w6 w1.heap.size (0, 0) ∧ ERow w6 ax t ∧ ERow w6 ay p) := ⟨K4.out.1.below hba, K4.out.2.1.below hba, K4.out.2.2.below hba⟩; clear hba; obtain ⟨v1, v0⟩ := K6.out.1.v) )
  go_ret
  exact ⟨rfl, K6.out.1.d⟩

set_option maxHeartbeats 2000000 in
theorem cv_size (l : Int) (a c : Option Addr) (cap cap2 : Nat) (t p : List (Nat × Nat)) (ht : ltE t) (hp : ltE p) (h1 : t.length ≤ 70) (h2 : p.length ≤ 8) (F g : Int) (hF : fiE l t p = F) (hF1 : ¬ F = 1) (hg : lgz t.length = g) (hgp : ¬ g = (p.length : Int)) (W : World) (ha : ERow W a t) (hc : ERow W c p)
    (HAt : Hid (Calls Try.prog 7 #[.int .i64 l, .slice a t.length cap, .slice c p.length cap2] W fun e w' => e = .returned (.tuple #[.agg #[.int .u64 ((0, 0).1 : Int), .int .u64 ((0, 0).2 : Int)], .int .i64 6]) ∧ Below W.heap.size W w')) :
    Calls Try.prog 3 #[.int .i64 l, .slice a t.length cap, .slice c p.length cap2] W fun e w' => e = .returned (.bool true) ∧ Below W.heap.size W w' := by
  have AW := awake15
  have HR1 : Hid (∀ w, Below W.heap.size W w → Calls Try.prog 8 #[.slice a t.length cap] w fun e w' => ∃ a' cap', e = .returned (.slice a' t.length cap') ∧ ERow w' a' t ∧ Below w.heap.size w w') := fun w hb => ref_row a cap t (by omega) w (ha.below hb)
  have HR2 : Hid (∀ w, Below W.heap.size W w → Calls Try.prog 8 #[.slice c p.length cap2] w fun e w' => ∃ a' cap', e = .returned (.slice a' p.length cap') ∧ ERow w' a' p ∧ Below w.heap.size w w') := fun w hb => ref_row c cap2 p (by omega) w (hc.below hb)
  have HM : Hid (∀ (w : World) (ax ay : Option Addr) (cx cy : Nat), ERow w ax t → ERow w ay p → Calls Try.prog 9 #[.int .i64 l, .slice ax t.length cx, .slice ay p.length cy] w fun e w' => e = .returned (.int .i64 F) ∧ Below w.heap.size w w') := fun w ax ay cx cy hx hy => by
    rw [← hF]; exact rmay_any l ax ay cx cy t p ht hp (by omega) (by omega) w hx hy
  have HL : Hid (Ret 10 #[.int .i64 (t.length : Int)] (.int .i64 g)) := by
    have := rlog_any t.length
    rw [hg] at this
    exact this
  have HV : Hid (∀ (w : World) (ax ay : Option Addr) (cx cy : Nat), ERow w ax t → ERow w ay p → Calls Try.prog 11 #[.slice ax t.length cx, .slice ay p.length cy] w fun e w' => e = .returned (.agg #[.int .u64 ((vl t p).1 : Int), .int .u64 ((vl t p).2 : Int)]) ∧ Below w.heap.size w w') := fun w ax ay cx cy hx hy => rvalue_any ax ay cx cy t p ht hp (by omega) (by omega) w hx hy
  have g1 : ¬ (70 : Int) < (t.length : Int) := by omega
  have g2 : ¬ (8 : Int) < (p.length : Int) := by omega
  have b1 : (F != 1) = true := by simp [hF1]
  have b2 : (g != (p.length : Int)) = true := by simp [hgp]
  clear ha hc ht hp hF hg
  generalize t.length = n at *
  generalize p.length = m at *
  generalize vl t p = vv at *
  go_enter Try.func3, Try.ntmps3
  go_wp2_with (first | (go_at_call 7; refine HAt.out.mono ?_; rintro e w1 ⟨rfl, hb1⟩; have K1 : Hid (Cvs W (w1.alloc (Obj.cells #[.int .u64 ((0, 0).1 : Int), .int .u64 ((0, 0).2 : Int)] 26)) w1.heap.size (0, 0)) := ⟨El.new w1 (0, 0) _, hb1.alloc hb1.size _⟩; clear hb1) | (go_at_call_of 8 (#[.slice a n cap] : Array Value); refine (HR1.out _ K1.out.d).mono ?_; rintro e w2 ⟨ax, cx, rfl, hx, hb2⟩; have K2 : Hid (Cvs W w2 w1.heap.size (0, 0) ∧ ERow w2 ax t) := ⟨K1.out.below hb2, hx⟩; clear hx hb2 HR1) | (go_at_call 8; refine (HR2.out _ K2.out.1.d).mono ?_; rintro e w3 ⟨ay, cy, rfl, hy, hb3⟩; have K3 : Hid (Cvs W w3 w1.heap.size (0, 0) ∧ ERow w3 ax t ∧ ERow w3 ay p) := ⟨K2.out.1.below hb3, K2.out.2.below hb3, hy⟩; clear hy hb3) | (go_at_call 9; refine (HM.out _ ax ay cx cy K3.out.2.1 K3.out.2.2).mono ?_; rintro e w4 ⟨rfl, hb4⟩; have K4 : Hid (Cvs W w4 w1.heap.size (0, 0) ∧ ERow w4 ax t ∧ ERow w4 ay p) := ⟨K3.out.1.below hb4, K3.out.2.1.below hb4, K3.out.2.2.below hb4⟩; clear hb4) | (go_at_call 10; refine (HL.out.go _).mono ?_; rintro e w5 ⟨rfl, hbl⟩; have K5 : Hid (Cvs W w5 w1.heap.size (0, 0) ∧ ERow w5 ax t ∧ ERow w5 ay p) := ⟨K4.out.1.below hbl, K4.out.2.1.below hbl, K4.out.2.2.below hbl⟩; clear hbl) | (go_at_call 6; refine (AW.go _).mono ?_; rintro e w6 ⟨rfl, hba⟩; have K6 : Hid (Cvs W w6 w1.heap.size (0, 0) ∧ ERow w6 ax t ∧ ERow w6 ay p) := ⟨K5.out.1.below hba, K5.out.2.1.below hba, K5.out.2.2.below hba⟩; clear hba; obtain ⟨v1, v0⟩ := K6.out.1.v) )
  go_ret
  exact ⟨rfl, K6.out.1.d⟩

set_option maxHeartbeats 2000000 in
theorem cv_field (l : Int) (a c : Option Addr) (cap cap2 : Nat) (t p : List (Nat × Nat)) (ht : ltE t) (hp : ltE p) (h1 : t.length ≤ 70) (h2 : p.length ≤ 8) (F : Int) (hF : fiE l t p = F) (hF1 : ¬ F = 1) (hF0 : ¬ F = 0) (hg : lgz t.length = (p.length : Int)) (W : World) (ha : ERow W a t) (hc : ERow W c p)
    (HAt : Hid (Calls Try.prog 7 #[.int .i64 l, .slice a t.length cap, .slice c p.length cap2] W fun e w' => e = .returned (.tuple #[.agg #[.int .u64 ((0, 0).1 : Int), .int .u64 ((0, 0).2 : Int)], .int .i64 F]) ∧ Below W.heap.size W w')) :
    Calls Try.prog 3 #[.int .i64 l, .slice a t.length cap, .slice c p.length cap2] W fun e w' => e = .returned (.bool true) ∧ Below W.heap.size W w' := by
  have AW := awake15
  have HR1 : Hid (∀ w, Below W.heap.size W w → Calls Try.prog 8 #[.slice a t.length cap] w fun e w' => ∃ a' cap', e = .returned (.slice a' t.length cap') ∧ ERow w' a' t ∧ Below w.heap.size w w') := fun w hb => ref_row a cap t (by omega) w (ha.below hb)
  have HR2 : Hid (∀ w, Below W.heap.size W w → Calls Try.prog 8 #[.slice c p.length cap2] w fun e w' => ∃ a' cap', e = .returned (.slice a' p.length cap') ∧ ERow w' a' p ∧ Below w.heap.size w w') := fun w hb => ref_row c cap2 p (by omega) w (hc.below hb)
  have HM : Hid (∀ (w : World) (ax ay : Option Addr) (cx cy : Nat), ERow w ax t → ERow w ay p → Calls Try.prog 9 #[.int .i64 l, .slice ax t.length cx, .slice ay p.length cy] w fun e w' => e = .returned (.int .i64 F) ∧ Below w.heap.size w w') := fun w ax ay cx cy hx hy => by
    rw [← hF]; exact rmay_any l ax ay cx cy t p ht hp (by omega) (by omega) w hx hy
  have HL : Hid (Ret 10 #[.int .i64 (t.length : Int)] (.int .i64 (p.length : Int))) := by
    have := rlog_any t.length
    rw [hg] at this
    exact this
  have HV : Hid (∀ (w : World) (ax ay : Option Addr) (cx cy : Nat), ERow w ax t → ERow w ay p → Calls Try.prog 11 #[.slice ax t.length cx, .slice ay p.length cy] w fun e w' => e = .returned (.agg #[.int .u64 ((vl t p).1 : Int), .int .u64 ((vl t p).2 : Int)]) ∧ Below w.heap.size w w') := fun w ax ay cx cy hx hy => rvalue_any ax ay cx cy t p ht hp (by omega) (by omega) w hx hy
  have g1 : ¬ (70 : Int) < (t.length : Int) := by omega
  have g2 : ¬ (8 : Int) < (p.length : Int) := by omega
  have b1 : (F != 1) = true := by simp [hF1]
  have b2 : (F != 0) = true := by simp [hF0]
  clear ha hc ht hp hF hg
  generalize t.length = n at *
  generalize p.length = m at *
  generalize vl t p = vv at *
  go_enter Try.func3, Try.ntmps3
  go_wp2_with (first | (go_at_call 7; refine HAt.out.mono ?_; rintro e w1 ⟨rfl, hb1⟩; have K1 : Hid (Cvs W (w1.alloc (Obj.cells #[.int .u64 ((0, 0).1 : Int), .int .u64 ((0, 0).2 : Int)] 26)) w1.heap.size (0, 0)) := ⟨El.new w1 (0, 0) _, hb1.alloc hb1.size _⟩; clear hb1) | (go_at_call_of 8 (#[.slice a n cap] : Array Value); refine (HR1.out _ K1.out.d).mono ?_; rintro e w2 ⟨ax, cx, rfl, hx, hb2⟩; have K2 : Hid (Cvs W w2 w1.heap.size (0, 0) ∧ ERow w2 ax t) := ⟨K1.out.below hb2, hx⟩; clear hx hb2 HR1) | (go_at_call 8; refine (HR2.out _ K2.out.1.d).mono ?_; rintro e w3 ⟨ay, cy, rfl, hy, hb3⟩; have K3 : Hid (Cvs W w3 w1.heap.size (0, 0) ∧ ERow w3 ax t ∧ ERow w3 ay p) := ⟨K2.out.1.below hb3, K2.out.2.below hb3, hy⟩; clear hy hb3) | (go_at_call 9; refine (HM.out _ ax ay cx cy K3.out.2.1 K3.out.2.2).mono ?_; rintro e w4 ⟨rfl, hb4⟩; have K4 : Hid (Cvs W w4 w1.heap.size (0, 0) ∧ ERow w4 ax t ∧ ERow w4 ay p) := ⟨K3.out.1.below hb4, K3.out.2.1.below hb4, K3.out.2.2.below hb4⟩; clear hb4) | (go_at_call 10; refine (HL.out.go _).mono ?_; rintro e w5 ⟨rfl, hbl⟩; have K5 : Hid (Cvs W w5 w1.heap.size (0, 0) ∧ ERow w5 ax t ∧ ERow w5 ay p) := ⟨K4.out.1.below hbl, K4.out.2.1.below hbl, K4.out.2.2.below hbl⟩; clear hbl) | (go_at_call 6; refine (AW.go _).mono ?_; rintro e w6 ⟨rfl, hba⟩; have K6 : Hid (Cvs W w6 w1.heap.size (0, 0) ∧ ERow w6 ax t ∧ ERow w6 ay p) := ⟨K5.out.1.below hba, K5.out.2.1.below hba, K5.out.2.2.below hba⟩; clear hba; obtain ⟨v1, v0⟩ := K6.out.1.v) )
  go_ret
  exact ⟨rfl, K6.out.1.d⟩

set_option maxHeartbeats 2000000 in
theorem cv_ok (l : Int) (a c : Option Addr) (cap cap2 : Nat) (t p : List (Nat × Nat)) (ht : ltE t) (hp : ltE p) (h1 : t.length ≤ 70) (h2 : p.length ≤ 8) (hF : fiE l t p = 0) (hg : lgz t.length = (p.length : Int)) (W : World) (ha : ERow W a t) (hc : ERow W c p)
    (HAt : Hid (Calls Try.prog 7 #[.int .i64 l, .slice a t.length cap, .slice c p.length cap2] W fun e w' => e = .returned (.tuple #[.agg #[.int .u64 ((vl t p).1 : Int), .int .u64 ((vl t p).2 : Int)], .int .i64 0]) ∧ Below W.heap.size W w')) :
    Calls Try.prog 3 #[.int .i64 l, .slice a t.length cap, .slice c p.length cap2] W fun e w' => e = .returned (.bool true) ∧ Below W.heap.size W w' := by
  have AW := awake15
  have HR1 : Hid (∀ w, Below W.heap.size W w → Calls Try.prog 8 #[.slice a t.length cap] w fun e w' => ∃ a' cap', e = .returned (.slice a' t.length cap') ∧ ERow w' a' t ∧ Below w.heap.size w w') := fun w hb => ref_row a cap t (by omega) w (ha.below hb)
  have HR2 : Hid (∀ w, Below W.heap.size W w → Calls Try.prog 8 #[.slice c p.length cap2] w fun e w' => ∃ a' cap', e = .returned (.slice a' p.length cap') ∧ ERow w' a' p ∧ Below w.heap.size w w') := fun w hb => ref_row c cap2 p (by omega) w (hc.below hb)
  have HM : Hid (∀ (w : World) (ax ay : Option Addr) (cx cy : Nat), ERow w ax t → ERow w ay p → Calls Try.prog 9 #[.int .i64 l, .slice ax t.length cx, .slice ay p.length cy] w fun e w' => e = .returned (.int .i64 0) ∧ Below w.heap.size w w') := fun w ax ay cx cy hx hy => by
    rw [← hF]; exact rmay_any l ax ay cx cy t p ht hp (by omega) (by omega) w hx hy
  have HL : Hid (Ret 10 #[.int .i64 (t.length : Int)] (.int .i64 (p.length : Int))) := by
    have := rlog_any t.length
    rw [hg] at this
    exact this
  have HV : Hid (∀ (w : World) (ax ay : Option Addr) (cx cy : Nat), ERow w ax t → ERow w ay p → Calls Try.prog 11 #[.slice ax t.length cx, .slice ay p.length cy] w fun e w' => e = .returned (.agg #[.int .u64 ((vl t p).1 : Int), .int .u64 ((vl t p).2 : Int)]) ∧ Below w.heap.size w w') := fun w ax ay cx cy hx hy => rvalue_any ax ay cx cy t p ht hp (by omega) (by omega) w hx hy
  have g1 : ¬ (70 : Int) < (t.length : Int) := by omega
  have g2 : ¬ (8 : Int) < (p.length : Int) := by omega
  clear ha hc ht hp hF hg
  generalize t.length = n at *
  generalize p.length = m at *
  generalize vl t p = vv at *
  go_enter Try.func3, Try.ntmps3
  go_wp2_with (first | (go_at_call 7; refine HAt.out.mono ?_; rintro e w1 ⟨rfl, hb1⟩; have K1 : Hid (Cvs W (w1.alloc (Obj.cells #[.int .u64 (vv.1 : Int), .int .u64 (vv.2 : Int)] 26)) w1.heap.size vv) := ⟨El.new w1 vv _, hb1.alloc hb1.size _⟩; clear hb1) | (go_at_call_of 8 (#[.slice a n cap] : Array Value); refine (HR1.out _ K1.out.d).mono ?_; rintro e w2 ⟨ax, cx, rfl, hx, hb2⟩; have K2 : Hid (Cvs W w2 w1.heap.size vv ∧ ERow w2 ax t) := ⟨K1.out.below hb2, hx⟩; clear hx hb2 HR1) | (go_at_call 8; refine (HR2.out _ K2.out.1.d).mono ?_; rintro e w3 ⟨ay, cy, rfl, hy, hb3⟩; have K3 : Hid (Cvs W w3 w1.heap.size vv ∧ ERow w3 ax t ∧ ERow w3 ay p) := ⟨K2.out.1.below hb3, K2.out.2.below hb3, hy⟩; clear hy hb3) | (go_at_call 9; refine (HM.out _ ax ay cx cy K3.out.2.1 K3.out.2.2).mono ?_; rintro e w4 ⟨rfl, hb4⟩; have K4 : Hid (Cvs W w4 w1.heap.size vv ∧ ERow w4 ax t ∧ ERow w4 ay p) := ⟨K3.out.1.below hb4, K3.out.2.1.below hb4, K3.out.2.2.below hb4⟩; clear hb4) | (go_at_call 10; refine (HL.out.go _).mono ?_; rintro e w5 ⟨rfl, hbl⟩; have K5 : Hid (Cvs W w5 w1.heap.size vv ∧ ERow w5 ax t ∧ ERow w5 ay p) := ⟨K4.out.1.below hbl, K4.out.2.1.below hbl, K4.out.2.2.below hbl⟩; clear hbl))
  have K : Cvt W w5 w1.heap.size vv ax ay t p := ⟨K5.out.1, K5.out.2.1, K5.out.2.2⟩
  clear K1 K2 K3 K4 K5
  generalize w1.heap.size = q at *
  obtain ⟨v1, v0⟩ := K.c.v
  go_region_held3 (fun w => w.cell? ⟨q, 0, none⟩ = some (.int .u64 (vv.1 : Int)) ∧ w.cell? ⟨q, 1, none⟩ = some (.int .u64 (vv.2 : Int))) (go_keep) (first | (go_at_call 6; refine (AW.go _).mono ?_; rintro e w' ⟨rfl, hb'⟩; have K' := Cvt.below (w' := w') (by first | exact K | exact K.drew) hb'; clear v1 v0 K hb'; have K := K'; clear K'; obtain ⟨v1, v0⟩ := K.c.v) | (go_at_call 11; refine (HV.out _ ax ay cx cy (by first | exact K.x | exact K.drew.x) (by first | exact K.y | exact K.drew.y)).mono ?_; rintro e w' ⟨rfl, hb'⟩; have K' := Cvt.below (w' := w') (by first | exact K | exact K.drew) hb'; clear v1 v0 K hb'; have K := K'; clear K'; obtain ⟨v1, v0⟩ := K.c.v))
  go_wp2
  go_ret
  exact ⟨rfl, K.c.d⟩
theorem hnd_one {l : Int} {f : Bool} {t p : List (Nat × Nat)} (h : hnd l f t p = 1) : ¬ (0 ≤ l ∧ l ≤ 7) := by
  intro hl
  unfold hnd at h
  rw [if_pos hl] at h
  split at h
  · split at h
    · exact absurd h (by decide)
    · exact absurd h (by decide)
  · exact absurd h (by decide)
theorem hnd_not {l : Int} (f : Bool) (t p : List (Nat × Nat)) (h : ¬ (0 ≤ l ∧ l ≤ 7)) : hnd l f t p = 1 := by unfold hnd; rw [if_neg h]
theorem hnd_six {l : Int} (t p : List (Nat × Nat)) (h : 0 ≤ l ∧ l ≤ 7) : hnd l false t p = 6 := by unfold hnd; rw [if_pos h, if_neg (by decide)]
theorem cv_any (l : Int) (a c : Option Addr) (cap cap2 : Nat) (t p : List (Nat × Nat)) (ht : ltE t) (hp : ltE p) (W : World) (ha : ERow W a t) (hc : ERow W c p) :
    Calls Try.prog 3 #[.int .i64 l, .slice a t.length cap, .slice c p.length cap2] W fun e w' => e = .returned (.bool true) ∧ Below W.heap.size W w' := by
  by_cases hf : 70 < t.length ∨ 8 < p.length
  · exact cv_far l a c cap cap2 _ _ hf W
  · have h1 : t.length ≤ 70 := by omega
    have h2 : p.length ≤ 8 := by omega
    by_cases hl : 0 ≤ l ∧ l ≤ 7
    · by_cases hg : (p.length : Int) = lgz t.length
      · have e : atE l t p = fiE l t p := by
          unfold atE fiE
          rw [decide_eq_true hg, decide_eq_true (by omega)]
        by_cases h0 : fiE l t p = 0
        · obtain ⟨k, hk, rfl, _, hlen, ot, op⟩ := at_zero (e.trans h0)
          exact cv_ok (k : Int) a c cap cap2 t p ht hp h1 h2 h0 hg.symm W ha hc (at_ok k hk a c cap cap2 t p ht hp (by omega) (by omega) hlen ot op _ (firsts_vl p t hlen ht hp) W ha hc)
        · exact cv_field l a c cap cap2 t p ht hp h1 h2 _ rfl (fun h => hnd_one h hl) h0 hg.symm W ha hc (at_err l a c cap cap2 t p ht hp (by omega) (by omega) _ e h0 W ha hc)
      · have e : atE l t p = 6 := by unfold atE; rw [decide_eq_false hg]; exact hnd_six t p hl
        exact cv_size l a c cap cap2 t p ht hp h1 h2 _ _ rfl (fun h => hnd_one h hl) rfl (fun h => hg h.symm) W ha hc (at_err l a c cap cap2 t p ht hp (by omega) (by omega) 6 e (by decide) W ha hc)
    · exact cv_arg l a c cap cap2 t p ht hp h1 h2 (hnd_not _ t p hl) W ha hc (at_err l a c cap cap2 t p ht hp (by omega) (by omega) 1 (hnd_not _ t p hl) (by decide) W ha hc)
end Go.Proofs.Ytkjgbkjhdmipoab
