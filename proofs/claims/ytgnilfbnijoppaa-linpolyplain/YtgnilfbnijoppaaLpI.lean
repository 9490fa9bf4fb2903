/- The page's example of layer 5: contracts of span.Rank, linpoly.New, has and Value at it, and steeplelaw05.awake, over the seat's translation. -/
import Derived.Test.YtgnilfbnijoppaaLpH
import Derived.Test.YtgnilfbnijoppaaTwX
import Derived.Deep.RegionHeld3
namespace Go.Proofs.Ytgnilfbnijoppaa
open Go.RowKit

theorem field_rows (a : Option Addr) (n c : Nat) (v : Value) (w : World) : (Instr.field 80 (.agg #[.slice a n c, v]) 0).run Try.prog w = .ok (.slice a n c) w := by
  simp [Instr.field, asAgg, go_sem]
set_option maxHeartbeats 400000 in
set_option maxRecDepth 100000 in
theorem rank_one (b off cap : Nat) (W : World) (hr : ERow W (some ⟨b, off, none⟩) [(0, 1)]) : Calls Try.prog 35 #[.slice (some ⟨b, off, none⟩) 1 cap] W fun e w' => e = .returned (.int .i64 1) ∧ Below W.heap.size W w' := by
  go_enter Try.func35, Try.ntmps35
  go_wp2_with fail
  refine (eliminate_one b off cap _ hr).mono ?_
  rintro e w1 ⟨a, c, v, rfl, hb⟩
  have hf := field_rows a 1 c v
  go_wp2
  go_ret
  exact ⟨rfl, hb⟩
set_option maxHeartbeats 400000 in
theorem lin_level_one : Ret 33 #[.int .i64 1] (.bool true) := by
  intro W
  go_enter Try.func33, Try.ntmps33
  go_wp2
  go_ret
  exact ⟨by simp, by first | exact Below.refl _ _ | go_grown⟩
theorem inv_one : Ret 51 #[.int .i64 1, .agg #[.int .u64 0, .int .u64 1]] (.agg #[.int .u64 ((Tw.ivh 0 1 : Nat) : Int), .int .u64 ((Tw.ivl 0 1 : Nat) : Int)]) := inv_of 1 0 1 (by decide) (by decide) (by decide)
theorem of_one_one : Ret 47 #[.int .i64 1, .agg #[.int .u64 0, .int .u64 1]] (.bool true) := by
  have := of_ret 1 0 1 (by decide)
  rwa [show ofB 1 (0 : Nat) (1 : Nat) = true by decide] at this
theorem of_one_two : Ret 47 #[.int .i64 1, .agg #[.int .u64 0, .int .u64 2]] (.bool true) := by
  have := of_ret 1 0 2 (by decide)
  rwa [show ofB 1 (0 : Nat) (2 : Nat) = true by decide] at this
/-- A space of level 1 whose basis is 1. -/
structure Spc (w : World) (B : Nat) : Prop where
  lt : B < w.heap.size
  c0 : w.cell? ⟨B, 0, none⟩ = some (.int .i64 1)
  c1 : ∃ a c, w.cell? ⟨B, 1, none⟩ = some (.slice a 1 c)
  c2 : ∃ a c, w.cell? ⟨B, 2, none⟩ = some (.slice a 1 c) ∧ ERow w a [(0, 1)]
theorem Spc.below {w w' : World} {B : Nat} (h : Spc w B) (k : Below w.heap.size w w') : Spc w' B := by
  obtain ⟨h1, h2, ⟨a, c, h3⟩, a2, c2, h4, h5⟩ := h
  exact ⟨Nat.lt_of_lt_of_le h1 k.size, keepc k h2, ⟨a, c, keepc k h3⟩, a2, c2, keepc k h4, h5.below k⟩
set_option maxHeartbeats 2000000 in
set_option maxRecDepth 100000 in
theorem new_one (b off cap : Nat) (W : World) (hr : ERow W (some ⟨b, off, none⟩) [(0, 1)]) : Calls Try.prog 10 #[.int .i64 1, .slice (some ⟨b, off, none⟩) 1 cap] W fun e w' => ∃ B, e = .returned (.tuple #[.pointer (some ⟨B, 0, none⟩), .int .i64 0]) ∧ Spc w' B ∧ Below W.heap.size W w' := by
  have HL := lin_level_one
  go_enter Try.func10, Try.ntmps10
  go_wp2_with fail
  refine (HL.go _).mono ?_
  rintro e w1 ⟨rfl, hb1⟩
  have HR1 : Hid (ERow w1 (some ⟨b, off, none⟩) [(0, 1)]) := hr.below hb1
  have HD1 : Hid (Below W.heap.size W w1) := hb1
  clear hb1 HL hr
  go_wp2_with fail
  refine (allOf_row 1 _ cap [(0, 1)] w1 HR1.out (by decide) (fun j hj => ?_)).mono ?_
  · obtain rfl : j = 0 := by simp at hj; exact hj
    exact of_one_one
  rintro e w2 ⟨rfl, hb2⟩
  have HR2 : Hid (ERow w2 (some ⟨b, off, none⟩) [(0, 1)]) := HR1.out.below hb2
  have HD2 : Hid (Below W.heap.size W w2) := HD1.out.trans (hb2.mono HD1.out.size)
  clear hb2 HR1 HD1
  go_wp2_with fail
  refine (rank_one b off cap w2 HR2.out).mono ?_
  rintro e w3 ⟨rfl, hb3⟩
  have HR3 : Hid (ERow w3 (some ⟨b, off, none⟩) [(0, 1)]) := HR2.out.below hb3
  have HD3 : Hid (Below W.heap.size W w3) := HD2.out.trans (hb3.mono HD2.out.size)
  clear hb3 HR2 HD2
  go_wp2_with fail
  refine (clone_row b off cap [(0, 1)] (by decide) w3 HR3.out).mono ?_
  rintro e w4 ⟨a', cap', rfl, hE, hb4⟩
  obtain ⟨b', off', rfl, _, _, _⟩ := hE.cells 0 (by simp)
  have HD4 : Hid (Below W.heap.size W w4) := HD3.out.trans (hb4.mono HD3.out.size)
  have HE : Hid (ERow w4 (some ⟨b', off', none⟩) [(0, 1)]) := hE
  clear hb4 HR3 HD3 hE
  go_wp2_with fail
  refine (made_one 1 b' off' cap' 0 1 _ _ w4 HE.out inv_one).mono ?_
  rintro e w5 ⟨a2, c2, a3, c3, rfl, hP, hE5⟩
  have HS : Hid (Spc w5 w4.heap.size) := ⟨cell_lt hP.c0, hP.c0, ⟨_, _, hP.c1⟩, a2, c2, hP.c2, hE5⟩
  have HD5 : Hid (Below W.heap.size W w5) := HD4.out.trans (hP.d.mono HD4.out.size)
  clear hP hE5 HE HD4
  go_wp2
  go_ret2
  exact ⟨_, rfl, HS.out, HD5.out⟩
set_option maxHeartbeats 4000000 in
set_option maxRecDepth 100000 in
theorem has_one (B : Nat) (W : World) (hS : Spc W B) : Calls Try.prog 39 #[.pointer (some ⟨B, 0, none⟩), .int .i64 1, .agg #[.int .u64 0, .int .u64 2]] W fun e w' => e = .returned (.bool true) ∧ Below W.heap.size W w' := by
  have HO := of_one_two
  obtain ⟨hB, c0, ⟨a, c, c1⟩, _⟩ := hS
  go_enter Try.func39, Try.ntmps39
  go_upto_region 1 with fail
  have D : Below W.heap.size W (W.alloc (Obj.cells #[.int .u64 0, .int .u64 2] 27)) := (Below.refl _ _).alloc (Nat.le_refl _) _
  have F : (W.alloc (Obj.cells #[.int .u64 0, .int .u64 2] 27)).cell? ⟨W.heap.size, 0, none⟩ = some (.int .u64 0) ∧ (W.alloc (Obj.cells #[.int .u64 0, .int .u64 2] 27)).cell? ⟨W.heap.size, 1, none⟩ = some (.int .u64 2) ∧ (W.alloc (Obj.cells #[.int .u64 0, .int .u64 2] 27)).cell? ⟨B, 0, none⟩ = some (.int .i64 1) ∧ (W.alloc (Obj.cells #[.int .u64 0, .int .u64 2] 27)).cell? ⟨B, 1, none⟩ = some (.slice a 1 c) := ⟨by simp [go_sem], by simp [go_sem], keepc D c0, keepc D c1⟩
  clear c0 c1
  generalize W.alloc (Obj.cells #[.int .u64 0, .int .u64 2] 27) = w1 at *
  go_region_held3 (fun w => w.cell? ⟨W.heap.size, 0, none⟩ = some (.int .u64 0) ∧ w.cell? ⟨W.heap.size, 1, none⟩ = some (.int .u64 2) ∧ w.cell? ⟨B, 0, none⟩ = some (.int .i64 1) ∧ w.cell? ⟨B, 1, none⟩ = some (.slice a 1 c)) (go_keep) (first | (go_at_call 47; refine (HO.go _).mono ?_; rintro e w' ⟨rfl, hb'⟩; have F' := And.intro (keepc hb' F.1) (And.intro (keepc hb' F.2.1) (And.intro (keepc hb' F.2.2.1) (keepc hb' F.2.2.2))); have D' : Below W.heap.size W w' := (D.drew).trans (hb'.mono D.size); clear F D hb'; have F := F'; have D := D'; clear F' D'))
  all_goals
    go_wp2
    go_ret
    exact ⟨by simp, D⟩
theorem mul_two_three : Ret 44 #[.int .i64 1, .agg #[.int .u64 0, .int .u64 2], .agg #[.int .u64 0, .int .u64 3]] (.agg #[.int .u64 0, .int .u64 1]) := fun W => by
  have h := mul_of 1 0 2 0 3 (by decide) (by decide) (by decide) (by decide) (by decide) (by decide) W
  rw [show Tw.pmh 0 2 0 3 = 0 by decide +kernel, show Tw.pml 0 2 0 3 = 1 by decide +kernel] at h
  exact h
theorem add_two_one : Ret 20 #[.agg #[.int .u64 0, .int .u64 2], .agg #[.int .u64 0, .int .u64 1]] (.agg #[.int .u64 0, .int .u64 3]) := fun W => add_any 0 2 0 1 (by decide) (by decide) (by decide) (by decide) W
theorem value_one (B : Nat) (W : World) (hS : Spc W B) : Calls Try.prog 43 #[.pointer (some ⟨B, 0, none⟩), .int .i64 1, .agg #[.int .u64 0, .int .u64 2]] W fun e w' => e = .returned (.agg #[.int .u64 0, .int .u64 1]) ∧ Below W.heap.size W w' := by
  obtain ⟨hB, c0, _, a, c, c2, hE⟩ := hS
  exact value_core 1 B 1 0 2 a c [(0, 1)] (fun k => if k = 0 then (0, 2) else (0, 1)) (fun _ => (0, 3)) W hB c0 c2 hE (Nat.le_refl _) (by decide) rfl
    (fun k hk => by obtain rfl : k = 0 := by omega
                    exact add_two_one)
    (fun k hk => by obtain rfl : k = 0 := by omega
                    exact mul_two_three)
    (fun k hk h => by
      rcases Nat.le_one_iff_eq_zero_or_eq_one.1 hk with rfl | rfl
      · simp at h
      · exact h)
set_option maxHeartbeats 2000000 in
set_option maxRecDepth 100000 in
theorem vval_one (B : Nat) (W : World) (hS : Spc W B) : Calls Try.prog 24 #[.pointer (some ⟨B, 0, none⟩), .int .i64 1, .agg #[.int .u64 0, .int .u64 2]] W fun e w' => e = .returned (.agg #[.int .u64 0, .int .u64 1]) ∧ Below W.heap.size W w' := by
  have HS : Hid (Spc W B) := hS
  clear hS
  go_enter Try.func24, Try.ntmps24
  go_wp2_with fail
  have D0 : Below W.heap.size W ((W.alloc (Obj.cells #[.int .u64 0, .int .u64 2] 27)).alloc (Obj.cells #[.int .u64 0, .int .u64 0] 27)) := ((Below.refl _ _).alloc (Nat.le_refl _) _).alloc (by simp) _
  refine (has_one B _ (HS.out.below D0)).mono ?_
  rintro e w1 ⟨rfl, hb1⟩
  have D1 : Below W.heap.size W w1 := D0.trans (hb1.mono (by simp <;> omega))
  have A : El w1 W.heap.size 0 2 := El.below ⟨by simp [go_sem], by simp [go_sem]⟩ hb1
  have R : Ew w1 (W.heap.size + 1) 0 0 := Ew.below ⟨⟨by simp [go_sem], by simp [go_sem]⟩, by simp [go_sem], by simp [go_sem]⟩ hb1
  have a1 : w1.cell? ⟨W.heap.size, 0, none⟩ = some (.int .u64 0) := A.hi
  have a0 : w1.cell? ⟨W.heap.size, 1, none⟩ = some (.int .u64 2) := A.lo
  have HR : Hid (Ew w1 (W.heap.size + 1) 0 0) := R
  have HD1 : Hid (Below W.heap.size W w1) := D1
  clear hb1 D0 A R D1
  go_wp2_with fail
  refine (value_one B w1 (HS.out.below HD1.out)).mono ?_
  rintro e w2 ⟨rfl, hb2⟩
  have HD2 : Hid (Below W.heap.size W w2) := HD1.out.trans (hb2.mono HD1.out.size)
  obtain ⟨⟨r1, r0⟩, f1, f0⟩ := HR.out.below hb2
  clear hb2 a1 a0 HR HD1
  go_wp2
  refine bodyPost_ret (v := .agg #[.int .u64 0, .int .u64 1]) (by simp [results, Try.results24, go_sem, *]) rfl ⟨rfl, ?_⟩
  exact below2 (p := W.heap.size + 1) HD2.out (by omega) _ _
set_option maxHeartbeats 2000000 in
set_option maxRecDepth 100000 in
/-- The page's example holds. -/
theorem awake5 : Ret 9 #[] (.bool true) := by
  intro W
  have H1 : Ret 28 #[] (.agg #[.int .u64 0, .int .u64 1]) := one_any
  go_enter Try.func9, Try.ntmps9
  go_wp2_with fail
  refine (H1.go _).mono ?_
  rintro e w1 ⟨rfl, hb1⟩
  have HD1 : Hid (Below W.heap.size W w1) := hb1
  clear hb1
  go_wp2_with fail
  have hr : ERow (w1.alloc (Obj.cells #[.int .u64 0, .int .u64 1] 27)) (some ⟨w1.heap.size, 0, none⟩) [(0, 1)] := ⟨fun i hi => by
    obtain rfl : i = 0 := by simp at hi; exact hi
    exact ⟨w1.heap.size, 0, rfl, by simp, by simp [go_sem], by simp [go_sem]⟩⟩
  refine (new_one w1.heap.size 0 1 _ hr).mono ?_
  rintro e w2 ⟨B, rfl, hS, hb2⟩
  have HD2 : Hid (Below W.heap.size W w2) := (HD1.out.alloc HD1.out.size _).trans (hb2.mono (by have := HD1.out.size; simp; omega))
  have HS : Hid (Spc w2 B) := hS
  clear hr hS hb2 HD1
  go_wp2_with fail
  obtain ⟨a, c, c1⟩ := HS.out.c1
  refine (dim_any B 1 c a w2 c1).mono ?_
  rintro e w3 ⟨rfl, hb3⟩
  have HD3 : Hid (Below W.heap.size W w3) := HD2.out.trans (hb3.mono HD2.out.size)
  have HS3 : Hid (Spc w3 B) := HS.out.below hb3
  clear hb3 c1 HS HD2
  go_wp2_with fail
  refine (vval_one B w3 HS3.out).mono ?_
  rintro e w4 ⟨rfl, hb4⟩
  have HD4 : Hid (Below W.heap.size W w4) := HD3.out.trans (hb4.mono HD3.out.size)
  clear hb4 HS3 HD3
  go_wp2_with fail
  refine (H1.go _).mono ?_
  rintro e w5 ⟨rfl, hb5⟩
  have HD5 : Hid (Below W.heap.size W w5) := HD4.out.trans (hb5.mono HD4.out.size)
  clear hb5 HD4
  go_wp2
  go_ret
  exact ⟨by simp, HD5.out⟩
end Go.Proofs.Ytgnilfbnijoppaa
