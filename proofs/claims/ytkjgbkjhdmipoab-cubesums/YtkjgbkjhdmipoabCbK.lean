/- The walk of CubeSums over the seat's translation: where nothing is asked. -/
import Derived.Test.YtkjgbkjhdmipoabCbI
import Derived.Test.YtkjgbkjhdmipoabRfE
namespace Go.Proofs.Ytkjgbkjhdmipoab
open Go.RowKit
open Cb
open Tw (pm)

/-- Two boxes of two slices each. -/
structure Sb (W w : World) (s0 s1 s2 s3 : Value) : Prop where
  t0 : w.cell? ⟨W.heap.size, 0, none⟩ = some s0
  t1 : w.cell? ⟨W.heap.size, 1, none⟩ = some s1
  x0 : w.cell? ⟨W.heap.size + 1, 0, none⟩ = some s2
  x1 : w.cell? ⟨W.heap.size + 1, 1, none⟩ = some s3
  d : Below W.heap.size W w
theorem Sb.below {W w w' : World} {s0 s1 s2 s3 : Value} (h : Sb W w s0 s1 s2 s3) (hb : Below w.heap.size w w') : Sb W w' s0 s1 s2 s3 := ⟨keepc hb h.t0, keepc hb h.t1, keepc hb h.x0, keepc hb h.x1, h.d.trans (hb.mono h.d.size)⟩
theorem Sb.drew {W w : World} {s0 s1 s2 s3 : Value} (h : Sb W w s0 s1 s2 s3) : Sb W w.drew s0 s1 s2 s3 := h.below (Below.refl _ _).drew
theorem Sb.alloc {W w : World} {s0 s1 s2 s3 : Value} (h : Sb W w s0 s1 s2 s3) (o : Obj) : Sb W (w.alloc o) s0 s1 s2 s3 := h.below ((Below.refl _ _).alloc (Nat.le_refl _) o)
theorem Sb.start (W : World) (a0 a1 ar ap : Option Addr) (n0 n1 nr np c0 c1 cr cp : Nat) : Sb W ((W.alloc (Obj.cells #[.slice a0 n0 c0, .slice a1 n1 c1] 44)).alloc (Obj.cells #[.slice ar nr cr, .slice ap np cp] 38)) (.slice a0 n0 c0) (.slice a1 n1 c1) (.slice ar nr cr) (.slice ap np cp) :=
  ⟨by simp [go_sem], by simp [go_sem], by simp [go_sem], by simp [go_sem], by go_grown⟩
set_option maxHeartbeats 1000000 in
theorem cs_g1 (l : Int) (a0 a1 ar ap : Option Addr) (n0 n1 nr np c0 c1 cr cp : Nat) (h : ¬ n0 = n1) (W : World) :
    Calls Try.prog 5 #[.int .i64 l, .agg #[.slice a0 n0 c0, .slice a1 n1 c1], .agg #[.slice ar nr cr, .slice ap np cp]] W fun e w' => e = .returned (.bool true) ∧ Below W.heap.size W w' := by
  have AW := awake15
  have h' : ((n0 : Int) != (n1 : Int)) = true := by simp; omega
  go_enter Try.func5, Try.ntmps5
  go_wp2_with (go_at_call 6; refine (AW.go _).mono ?_; rintro e w1 ⟨rfl, hb1⟩; have K1 := (Sb.start W a0 a1 ar ap n0 n1 nr np c0 c1 cr cp).below hb1)
  go_ret
  exact ⟨rfl, K1.d⟩
set_option maxHeartbeats 1000000 in
theorem cs_g2 (l : Int) (a0 a1 ar ap : Option Addr) (n0 nr np c0 c1 cr cp : Nat) (h2 : 64 < n0) (W : World) :
    Calls Try.prog 5 #[.int .i64 l, .agg #[.slice a0 n0 c0, .slice a1 n0 c1], .agg #[.slice ar nr cr, .slice ap np cp]] W fun e w' => e = .returned (.bool true) ∧ Below W.heap.size W w' := by
  have AW := awake15
  have h' : (64 : Int) < (n0 : Int) := by omega
  go_enter Try.func5, Try.ntmps5
  go_wp2_with (go_at_call 6; refine (AW.go _).mono ?_; rintro e w1 ⟨rfl, hb1⟩; have K1 := (Sb.start W a0 a1 ar ap n0 n0 nr np c0 c1 cr cp).below hb1)
  go_ret
  exact ⟨rfl, K1.d⟩
set_option maxHeartbeats 1000000 in
theorem cs_g3 (l : Int) (a0 a1 ar ap : Option Addr) (n0 nr np c0 c1 cr cp : Nat) (h2 : n0 ≤ 64) (h3 : ¬ nr = 1) (W : World) :
    Calls Try.prog 5 #[.int .i64 l, .agg #[.slice a0 n0 c0, .slice a1 n0 c1], .agg #[.slice ar nr cr, .slice ap np cp]] W fun e w' => e = .returned (.bool true) ∧ Below W.heap.size W w' := by
  have AW := awake15
  have h' : ¬ (64 : Int) < (n0 : Int) := by omega
  have h'' : ((nr : Int) != 1) = true := by simp; omega
  go_enter Try.func5, Try.ntmps5
  go_wp2_with (go_at_call 6; refine (AW.go _).mono ?_; rintro e w1 ⟨rfl, hb1⟩; have K1 := (Sb.start W a0 a1 ar ap n0 n0 nr np c0 c1 cr cp).below hb1)
  go_ret
  exact ⟨rfl, K1.d⟩
set_option maxHeartbeats 1000000 in
theorem cs_g4 (l : Int) (a0 a1 ap : Option Addr) (br offr n0 np c0 c1 cr cp : Nat) (h2 : n0 ≤ 64) (r : Nat × Nat) (hr : lt2 r) (ho : ofB l (r.1 : Int) (r.2 : Int) = false) (W : World) (q1 : W.cell? ⟨br, offr, none⟩ = some (.int .u64 (r.1 : Int))) (q0 : W.cell? ⟨br, offr + 1, none⟩ = some (.int .u64 (r.2 : Int))) :
    Calls Try.prog 5 #[.int .i64 l, .agg #[.slice a0 n0 c0, .slice a1 n0 c1], .agg #[.slice (some ⟨br, offr, none⟩) 1 cr, .slice ap np cp]] W fun e w' => e = .returned (.bool true) ∧ Below W.heap.size W w' := by
  have AW := awake15
  have HO := rof_any l r.1 r.2 hr.1 hr.2
  rw [ho] at HO
  have h' : ¬ (64 : Int) < (n0 : Int) := by omega
  have K0 : Hid (Sb W _ _ _ _ _) := Sb.start W a0 a1 (some ⟨br, offr, none⟩) ap n0 n0 1 np c0 c1 cr cp
  have d1 := keepc K0.out.d q1
  have d0 := keepc K0.out.d q0
  clear hr ho
  go_enter Try.func5, Try.ntmps5
  go_wp2_with (first | (go_at_call 17; refine (HO.go _).mono ?_; rintro e w1 ⟨rfl, hb1⟩; have K1 := K0.out.below hb1; clear hb1 d1 d0) | (go_at_call 6; refine (AW.go _).mono ?_; rintro e w2 ⟨rfl, hb2⟩; have K2 := K1.below hb2))
  go_ret
  exact ⟨rfl, K2.d⟩
set_option maxHeartbeats 2000000 in
theorem cs_err (l : Int) (a0 a1 ap : Option Addr) (br offr n0 np c0 c1 cr cp : Nat) (h2 : n0 ≤ 64) (r va vb : Nat × Nat) (E0 E1 : Int) (hE : (E0 != 0) = true ∨ ((E0 != 0) = false ∧ (E1 != 0) = true)) (hr : lt2 r) (ho : ofB l (r.1 : Int) (r.2 : Int) = true) (W : World) (q1 : W.cell? ⟨br, offr, none⟩ = some (.int .u64 (r.1 : Int))) (q0 : W.cell? ⟨br, offr + 1, none⟩ = some (.int .u64 (r.2 : Int)))
    (HA : Hid (∀ w, Below W.heap.size W w → Calls Try.prog 7 #[.int .i64 l, .slice a0 n0 c0, .slice ap np cp] w fun e w' => e = .returned (.tuple #[.agg #[.int .u64 (va.1 : Int), .int .u64 (va.2 : Int)], .int .i64 E0]) ∧ Below w.heap.size w w'))
    (HB : Hid (∀ w, Below W.heap.size W w → Calls Try.prog 7 #[.int .i64 l, .slice a1 n0 c1, .slice ap np cp] w fun e w' => e = .returned (.tuple #[.agg #[.int .u64 (vb.1 : Int), .int .u64 (vb.2 : Int)], .int .i64 E1]) ∧ Below w.heap.size w w')) :
    Calls Try.prog 5 #[.int .i64 l, .agg #[.slice a0 n0 c0, .slice a1 n0 c1], .agg #[.slice (some ⟨br, offr, none⟩) 1 cr, .slice ap np cp]] W fun e w' => e = .returned (.bool true) ∧ Below W.heap.size W w' := by
  have AW := awake15
  have HO := rof_any l r.1 r.2 hr.1 hr.2
  rw [ho] at HO
  have h' : ¬ (64 : Int) < (n0 : Int) := by omega
  have K0 : Hid (Sb W _ _ _ _ _) := Sb.start W a0 a1 (some ⟨br, offr, none⟩) ap n0 n0 1 np c0 c1 cr cp
  have d1 := keepc K0.out.d q1
  have d0 := keepc K0.out.d q0
  clear hr ho
  rcases hE with e0 | ⟨e0, e1⟩
  · go_enter Try.func5, Try.ntmps5
    go_wp2_with (first | (go_at_call 17; refine (HO.go _).mono ?_; rintro e w1 ⟨rfl, hb1⟩; have K1 := K0.out.below hb1; obtain ⟨t0, t1, x0, x1, _⟩ := K1; clear d1 d0) | (go_at_call_of 7 (#[.int .i64 l, .slice a0 n0 c0, .slice ap np cp] : Array Value); refine (HA.out _ (K0.out.below hb1).d).mono ?_; rintro e w2 ⟨rfl, hb2⟩; have K2 : Hid (Sb W (w2.alloc (Obj.cells #[.int .u64 (va.1 : Int), .int .u64 (va.2 : Int)] 26)) _ _ _ _) := ((K0.out.below hb1).below hb2).alloc _; clear hb2 hb1 t0 t1 x0 x1 HA; obtain ⟨t0, t1, x0, x1, _⟩ := K2.out) | (go_at_call 7; refine (HB.out _ K2.out.d).mono ?_; rintro e w3 ⟨rfl, hb3⟩; have K3 : Hid (Sb W (w3.alloc (Obj.cells #[.int .u64 (vb.1 : Int), .int .u64 (vb.2 : Int)] 26)) _ _ _ _) := (K2.out.below hb3).alloc _; clear hb3 t0 t1 x0 x1; obtain ⟨t0, t1, x0, x1, _⟩ := K3.out) | (go_at_call 6; refine (AW.go _).mono ?_; rintro e w4 ⟨rfl, hb4⟩; have K4 := K3.out.below hb4))
    go_ret
    exact ⟨rfl, K4.d⟩
  · go_enter Try.func5, Try.ntmps5
    go_wp2_with (first | (go_at_call 17; refine (HO.go _).mono ?_; rintro e w1 ⟨rfl, hb1⟩; have K1 := K0.out.below hb1; obtain ⟨t0, t1, x0, x1, _⟩ := K1; clear d1 d0) | (go_at_call_of 7 (#[.int .i64 l, .slice a0 n0 c0, .slice ap np cp] : Array Value); refine (HA.out _ (K0.out.below hb1).d).mono ?_; rintro e w2 ⟨rfl, hb2⟩; have K2 : Hid (Sb W (w2.alloc (Obj.cells #[.int .u64 (va.1 : Int), .int .u64 (va.2 : Int)] 26)) _ _ _ _) := ((K0.out.below hb1).below hb2).alloc _; clear hb2 hb1 t0 t1 x0 x1 HA; obtain ⟨t0, t1, x0, x1, _⟩ := K2.out) | (go_at_call 7; refine (HB.out _ K2.out.d).mono ?_; rintro e w3 ⟨rfl, hb3⟩; have K3 : Hid (Sb W (w3.alloc (Obj.cells #[.int .u64 (vb.1 : Int), .int .u64 (vb.2 : Int)] 26)) _ _ _ _) := (K2.out.below hb3).alloc _; clear hb3 t0 t1 x0 x1; obtain ⟨t0, t1, x0, x1, _⟩ := K3.out) | (go_at_call 6; refine (AW.go _).mono ?_; rintro e w4 ⟨rfl, hb4⟩; have K4 := K3.out.below hb4))
    go_ret
    exact ⟨rfl, K4.d⟩
end Go.Proofs.Ytkjgbkjhdmipoab
