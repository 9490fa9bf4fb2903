/- The walk of CubeCorners over the seat's translation: no corner. -/
import Derived.Test.YtkjgbkjhdmipoaaCbS
import Derived.Test.YtkjgbkjhdmipoaaSmA
namespace Go.Proofs.Ytkjgbkjhdmipoaa
open Go.RowKit
open Cb
open Tw (pm)

theorem Cvs.factsC {W w : World} {q b o : Nat} {v : Nat × Nat} (h : Cvs W w q v) (X : b < W.heap.size ∧ W.cell? ⟨b, o, none⟩ = some (.int .u64 (v.1 : Int)) ∧ W.cell? ⟨b, o + 1, none⟩ = some (.int .u64 (v.2 : Int))) :
    w.cell? ⟨q, 0, none⟩ = some (.int .u64 (v.1 : Int)) ∧ w.cell? ⟨q, 1, none⟩ = some (.int .u64 (v.2 : Int)) ∧ w.cell? ⟨b, o, none⟩ = some (.int .u64 (v.1 : Int)) ∧ w.cell? ⟨b, o + 1, none⟩ = some (.int .u64 (v.2 : Int)) :=
  ⟨h.v.hi, h.v.lo, by rw [h.d.cell (p := ⟨b, o, none⟩) X.1]; exact X.2.1, by rw [h.d.cell (p := ⟨b, o + 1, none⟩) X.1]; exact X.2.2⟩
set_option maxHeartbeats 1000000 in
set_option maxRecDepth 100000 in
theorem cc_far (l : Int) (a : Option Addr) (cap L : Nat) (n i : Int) (h : 64 < L) (W : World) :
    Calls Try.prog 3 #[.int .i64 l, .slice a L cap, .agg #[.int .i64 n, .int .i64 i]] W fun e w' => e = .returned (.bool true) ∧ Below W.heap.size W w' := by
  have AW := awake15
  have h' : (64 : Int) < (L : Int) := by omega
  go_enter Try.func3, Try.ntmps3
  go_wp2_with fail
  go_region_held3 (fun w => w.cell? ⟨W.heap.size, 0, none⟩ = some (.int .i64 n) ∧ w.cell? ⟨W.heap.size, 1, none⟩ = some (.int .i64 i)) (first | (go_keep; done) | (refine ⟨?_, ?_⟩ <;> simp [go_sem])) (fail)
  have D0 : Hid (Below W.heap.size W (W.alloc (Obj.cells #[.int .i64 n, .int .i64 i] 23)).drew) := (by go_grown : Below W.heap.size W (W.alloc (Obj.cells #[.int .i64 n, .int .i64 i] 23)).drew)
  go_wp2_with (go_at_call 6; refine (AW.go _).mono ?_; rintro e w1 ⟨rfl, hb1⟩)
  go_ret
  exact ⟨rfl, D0.out.trans (hb1.mono D0.out.size)⟩
set_option maxHeartbeats 4000000 in
set_option maxRecDepth 100000 in
theorem cc_a1 (l : Int) (a : Option Addr) (cap K : Nat) (t : List (Nat × Nat)) (n i : Int) (hn : n < 1) (g : Int) (_ht : ltE t) (h1 : t.length ≤ 64) (W : World) (hT : ERow W a t) (hK : K < 1) (hlg : lgz t.length = (K : Int) ∨ (lgz t.length = -1 ∧ K = 0)) (HLc : Hid (Ret 4 #[.int .i64 n] (.int .i64 g))) (HLr : Hid (Ret 5 #[.int .i64 n] (.int .i64 g))) (HCo : Hid (Ret 7 #[.int .i64 n, .int .i64 i] (.slice none 0 0))) :
    Calls Try.prog 3 #[.int .i64 l, .slice a t.length cap, .agg #[.int .i64 n, .int .i64 i]] W fun e w' => e = .returned (.bool true) ∧ Below W.heap.size W w' := by
  have AW := awake15
  have HR2 : Hid (∀ w, Below W.heap.size W w → Calls Try.prog 10 #[.slice a t.length cap] w fun e w' => ∃ a' cap', e = .returned (.slice a' t.length cap') ∧ ERow w' a' t ∧ Below w.heap.size w w') := fun w hb => ref_row a cap t (by omega) w (hT.below hb)
  obtain ⟨G, hG, HLt0⟩ : ∃ G : Int, (G = (K : Int) ∨ (G = -1 ∧ K = 0)) ∧ Ret 5 #[.int .i64 (t.length : Int)] (.int .i64 G) := ⟨_, hlg, rlog_any t.length⟩
  have HLt : Hid (Ret 5 #[.int .i64 (t.length : Int)] (.int .i64 G)) := HLt0
  have g1 : ¬ (64 : Int) < (t.length : Int) := by omega
  have g2 : (g != g) = false := by simp
  have hK' : (K : Int) < 1 := by omega
  have hG1 : G < 1 := by omega
  clear hT hK hK' hlg hG HLt0
  generalize hL : t.length = L at *
  clear hL
  go_enter Try.func3, Try.ntmps3
  go_wp2_with fail
  go_region_held3 (fun w => w.cell? ⟨W.heap.size, 0, none⟩ = some (.int .i64 n) ∧ w.cell? ⟨W.heap.size, 1, none⟩ = some (.int .i64 i)) (first | (go_keep; done) | (refine ⟨?_, ?_⟩ <;> simp [go_sem])) (fail)
  have D0 : Hid (Below W.heap.size W (W.alloc (Obj.cells #[.int .i64 n, .int .i64 i] 23)).drew) := (by go_grown : Below W.heap.size W (W.alloc (Obj.cells #[.int .i64 n, .int .i64 i] 23)).drew)
  go_wp2_with (first | (go_at_call 4; refine (HLc.out.go _).mono ?_; rintro e w1 ⟨rfl, hb1⟩; have D1 : Hid (Below W.heap.size W w1) := D0.out.trans (hb1.mono D0.out.size); clear hb1) | (go_at_call_of 5 (#[.int .i64 n] : Array Value); refine (HLr.out.go _).mono ?_; rintro e w2 ⟨rfl, hb2⟩; have D2 : Hid (Below W.heap.size W w2) := D1.out.trans (hb2.mono D1.out.size); clear hb2) | (go_at_call_of 7 (#[.int .i64 n, .int .i64 i] : Array Value); refine (HCo.out.go _).mono ?_; rintro e w3 ⟨rfl, hb3⟩; have D3 : Hid (Below W.heap.size W w3) := D2.out.trans (hb3.mono D2.out.size); clear hb3) | (go_at_call 5; refine (HLt.out.go _).mono ?_; rintro e w4 ⟨rfl, hb4⟩; have D4 : Hid (Below W.heap.size W w4) := D3.out.trans (hb4.mono D3.out.size); clear hb4) | (go_at_call 6; refine (AW.go _).mono ?_; rintro e w7 ⟨rfl, hb7⟩; have D7 : Hid (Below W.heap.size W w7) := D4.out.trans (hb7.mono D4.out.size); clear hb7))
  go_ret
  exact ⟨rfl, D7.out⟩
set_option maxHeartbeats 4000000 in
set_option maxRecDepth 100000 in
theorem cc_a2 (l : Int) (a : Option Addr) (cap K : Nat) (t : List (Nat × Nat)) (n i : Int) (hn : n < 1) (g : Int) (ht : ltE t) (h1 : t.length ≤ 64) (W : World) (hT : ERow W a t) (hK : ¬ K < 1) (F : Int) (hF : fiE l t [] = F) (hF0 : ¬ F = 0) (hlg : lgz t.length = (K : Int) ∨ (lgz t.length = -1 ∧ K = 0)) (HLc : Hid (Ret 4 #[.int .i64 n] (.int .i64 g))) (HLr : Hid (Ret 5 #[.int .i64 n] (.int .i64 g))) (HCo : Hid (Ret 7 #[.int .i64 n, .int .i64 i] (.slice none 0 0))) :
    Calls Try.prog 3 #[.int .i64 l, .slice a t.length cap, .agg #[.int .i64 n, .int .i64 i]] W fun e w' => e = .returned (.bool true) ∧ Below W.heap.size W w' := by
  have AW := awake15
  have HR2 : Hid (∀ w, Below W.heap.size W w → Calls Try.prog 10 #[.slice a t.length cap] w fun e w' => ∃ a' cap', e = .returned (.slice a' t.length cap') ∧ ERow w' a' t ∧ Below w.heap.size w w') := fun w hb => ref_row a cap t (by omega) w (hT.below hb)
  obtain ⟨G, hG, HLt0⟩ : ∃ G : Int, (G = (K : Int) ∨ (G = -1 ∧ K = 0)) ∧ Ret 5 #[.int .i64 (t.length : Int)] (.int .i64 G) := ⟨_, hlg, rlog_any t.length⟩
  have HLt : Hid (Ret 5 #[.int .i64 (t.length : Int)] (.int .i64 G)) := HLt0
  have g1 : ¬ (64 : Int) < (t.length : Int) := by omega
  have g2 : (g != g) = false := by simp
  have hK' : ¬ (K : Int) < 1 := by omega
  have hF' : (F != 0) = true := by simp [hF0]
  have HM : Hid (∀ (w : World) (ax : Option Addr) (cx : Nat), ERow w ax t → Calls Try.prog 9 #[.int .i64 l, .slice ax t.length cx, .slice none 0 0] w fun e w' => e = .returned (.int .i64 F) ∧ Below w.heap.size w w') := fun w ax cx hx => by
    rw [← hF]; exact rmay_any l ax none cx 0 t [] ht (fun e he => by cases he) (by omega) (by simp) w hx ⟨fun i hi => by simp at hi⟩
  obtain rfl : G = (K : Int) := by omega
  clear hT ht hF hK hlg hG HLt0
  generalize hL : t.length = L at *
  clear hL
  go_enter Try.func3, Try.ntmps3
  go_wp2_with fail
  go_region_held3 (fun w => w.cell? ⟨W.heap.size, 0, none⟩ = some (.int .i64 n) ∧ w.cell? ⟨W.heap.size, 1, none⟩ = some (.int .i64 i)) (first | (go_keep; done) | (refine ⟨?_, ?_⟩ <;> simp [go_sem])) (fail)
  have D0 : Hid (Below W.heap.size W (W.alloc (Obj.cells #[.int .i64 n, .int .i64 i] 23)).drew) := (by go_grown : Below W.heap.size W (W.alloc (Obj.cells #[.int .i64 n, .int .i64 i] 23)).drew)
  go_wp2_with (first | (go_at_call 4; refine (HLc.out.go _).mono ?_; rintro e w1 ⟨rfl, hb1⟩; have D1 : Hid (Below W.heap.size W w1) := D0.out.trans (hb1.mono D0.out.size); clear hb1) | (go_at_call_of 5 (#[.int .i64 n] : Array Value); refine (HLr.out.go _).mono ?_; rintro e w2 ⟨rfl, hb2⟩; have D2 : Hid (Below W.heap.size W w2) := D1.out.trans (hb2.mono D1.out.size); clear hb2) | (go_at_call_of 7 (#[.int .i64 n, .int .i64 i] : Array Value); refine (HCo.out.go _).mono ?_; rintro e w3 ⟨rfl, hb3⟩; have D3 : Hid (Below W.heap.size W w3) := D2.out.trans (hb3.mono D2.out.size); clear hb3) | (go_at_call 5; refine (HLt.out.go _).mono ?_; rintro e w4 ⟨rfl, hb4⟩; have D4 : Hid (Below W.heap.size W w4) := D3.out.trans (hb4.mono D3.out.size); clear hb4) | (go_at_call 10; refine (HR2.out _ D4.out).mono ?_; rintro e w5 ⟨ax, cx, rfl, hx, hb5⟩; have D5 : Hid (Below W.heap.size W w5 ∧ ERow w5 ax t) := ⟨D4.out.trans (hb5.mono D4.out.size), hx⟩; clear hb5 hx) | (go_at_call 9; refine (HM.out _ ax cx D5.out.2).mono ?_; rintro e w6 ⟨rfl, hb6⟩; have D6 : Hid (Below W.heap.size W w6) := D5.out.1.trans (hb6.mono D5.out.1.size); clear hb6) | (go_at_call 6; refine (AW.go _).mono ?_; rintro e w7 ⟨rfl, hb7⟩; have D7 : Hid (Below W.heap.size W w7) := D6.out.trans (hb7.mono D6.out.size); clear hb7))
  go_ret
  exact ⟨rfl, D7.out⟩
set_option maxHeartbeats 4000000 in
set_option maxRecDepth 100000 in
theorem cc_a3 (l : Int) (a : Option Addr) (cap K : Nat) (t : List (Nat × Nat)) (n i : Int) (hn : n < 1) (g : Int) (ht : ltE t) (h1 : t.length ≤ 64) (W : World) (hT : ERow W a t) (hK : ¬ K < 1) (hF : fiE l t [] = 0) (c0 q : Nat) (bt ot : Nat) (v : Nat × Nat) (e1 : IntKind.i64.wrap (i.tmod (t.length : Int) + (t.length : Int)) = (q : Int)) (e2 : (q : Int).tmod (t.length : Int) = (c0 : Int)) (hc0 : c0 < t.length) (HX : Hid (bt < W.heap.size ∧ W.cell? ⟨bt, ot + c0 * 2, none⟩ = some (.int .u64 (v.1 : Int)) ∧ W.cell? ⟨bt, ot + c0 * 2 + 1, none⟩ = some (.int .u64 (v.2 : Int)))) (ha : a = some ⟨bt, ot, none⟩) (HC2 : Hid (∀ w, Calls Try.prog 7 #[.int .i64 (K : Int), .int .i64 (c0 : Int)] w fun e w' => ∃ g, e = .returned (.slice (some ⟨g, 0, none⟩) K K) ∧ ERow w' (some ⟨g, 0, none⟩) (crn K c0) ∧ Below w.heap.size w w')) (HAt : Hid (∀ (w : World) (g : Nat), Below W.heap.size W w → ERow w (some ⟨g, 0, none⟩) (crn K c0) → Calls Try.prog 11 #[.int .i64 l, .slice a t.length cap, .slice (some ⟨g, 0, none⟩) K K] w fun e w' => e = .returned (.tuple #[.agg #[.int .u64 (v.1 : Int), .int .u64 (v.2 : Int)], .int .i64 0]) ∧ Below w.heap.size w w')) (hlg : lgz t.length = (K : Int) ∨ (lgz t.length = -1 ∧ K = 0)) (HLc : Hid (Ret 4 #[.int .i64 n] (.int .i64 g))) (HLr : Hid (Ret 5 #[.int .i64 n] (.int .i64 g))) (HCo : Hid (Ret 7 #[.int .i64 n, .int .i64 i] (.slice none 0 0))) :
    Calls Try.prog 3 #[.int .i64 l, .slice a t.length cap, .agg #[.int .i64 n, .int .i64 i]] W fun e w' => e = .returned (.bool true) ∧ Below W.heap.size W w' := by
  have AW := awake15
  have HR2 : Hid (∀ w, Below W.heap.size W w → Calls Try.prog 10 #[.slice a t.length cap] w fun e w' => ∃ a' cap', e = .returned (.slice a' t.length cap') ∧ ERow w' a' t ∧ Below w.heap.size w w') := fun w hb => ref_row a cap t (by omega) w (hT.below hb)
  obtain ⟨G, hG, HLt0⟩ : ∃ G : Int, (G = (K : Int) ∨ (G = -1 ∧ K = 0)) ∧ Ret 5 #[.int .i64 (t.length : Int)] (.int .i64 G) := ⟨_, hlg, rlog_any t.length⟩
  have HLt : Hid (Ret 5 #[.int .i64 (t.length : Int)] (.int .i64 G)) := HLt0
  have g1 : ¬ (64 : Int) < (t.length : Int) := by omega
  have g2 : (g != g) = false := by simp
  have hK' : ¬ (K : Int) < 1 := by omega
  have HM : Hid (∀ (w : World) (ax : Option Addr) (cx : Nat), ERow w ax t → Calls Try.prog 9 #[.int .i64 l, .slice ax t.length cx, .slice none 0 0] w fun e w' => e = .returned (.int .i64 0) ∧ Below w.heap.size w w') := fun w ax cx hx => by
    rw [← hF]; exact rmay_any l ax none cx 0 t [] ht (fun e he => by cases he) (by omega) (by simp) w hx ⟨fun i hi => by simp at hi⟩
  subst ha
  have q0 : ¬ (t.length : Int) = 0 := by omega
  have q1 : (c0 : Int) < (t.length : Int) := by omega
  obtain rfl : G = (K : Int) := by omega
  clear hT ht hF hK hlg hG HLt0
  generalize hL : t.length = L at *
  clear hL
  go_enter Try.func3, Try.ntmps3
  go_wp2_with fail
  go_region_held3 (fun w => w.cell? ⟨W.heap.size, 0, none⟩ = some (.int .i64 n) ∧ w.cell? ⟨W.heap.size, 1, none⟩ = some (.int .i64 i)) (first | (go_keep; done) | (refine ⟨?_, ?_⟩ <;> simp [go_sem])) (fail)
  have D0 : Hid (Below W.heap.size W (W.alloc (Obj.cells #[.int .i64 n, .int .i64 i] 23)).drew) := (by go_grown : Below W.heap.size W (W.alloc (Obj.cells #[.int .i64 n, .int .i64 i] 23)).drew)
  go_wp2_with (first | (go_at_call 4; refine (HLc.out.go _).mono ?_; rintro e w1 ⟨rfl, hb1⟩; have D1 : Hid (Below W.heap.size W w1) := D0.out.trans (hb1.mono D0.out.size); clear hb1) | (go_at_call_of 5 (#[.int .i64 n] : Array Value); refine (HLr.out.go _).mono ?_; rintro e w2 ⟨rfl, hb2⟩; have D2 : Hid (Below W.heap.size W w2) := D1.out.trans (hb2.mono D1.out.size); clear hb2) | (go_at_call_of 7 (#[.int .i64 n, .int .i64 i] : Array Value); refine (HCo.out.go _).mono ?_; rintro e w3 ⟨rfl, hb3⟩; have D3 : Hid (Below W.heap.size W w3) := D2.out.trans (hb3.mono D2.out.size); clear hb3) | (go_at_call 5; refine (HLt.out.go _).mono ?_; rintro e w4 ⟨rfl, hb4⟩; have D4 : Hid (Below W.heap.size W w4) := D3.out.trans (hb4.mono D3.out.size); clear hb4) | (go_at_call 10; refine (HR2.out _ D4.out).mono ?_; rintro e w5 ⟨ax, cx, rfl, hx, hb5⟩; have D5 : Hid (Below W.heap.size W w5 ∧ ERow w5 ax t) := ⟨D4.out.trans (hb5.mono D4.out.size), hx⟩; clear hb5 hx) | (go_at_call 9; refine (HM.out _ ax cx D5.out.2).mono ?_; rintro e w6 ⟨rfl, hb6⟩; have D6 : Hid (Below W.heap.size W w6) := D5.out.1.trans (hb6.mono D5.out.1.size); clear hb6) | (go_at_call 7; refine (HC2.out _).mono ?_; rintro e w8 ⟨gg, rfl, hE8, hb8⟩; have D8 : Hid (Below W.heap.size W w8 ∧ ERow w8 (some ⟨gg, 0, none⟩) (crn K c0)) := ⟨D6.out.trans (hb8.mono D6.out.size), hE8⟩; clear hb8 hE8) | (go_at_call 11; refine (HAt.out _ gg D8.out.1 D8.out.2).mono ?_; rintro e w9 ⟨rfl, hb9⟩; have D9 : Hid (Below W.heap.size W w9) := D8.out.1.trans (hb9.mono D8.out.1.size); clear hb9))
  have KZ : Cvs W (w9.alloc (Obj.cells #[.int .u64 (v.1 : Int), .int .u64 (v.2 : Int)] 29)) w9.heap.size v := ⟨El.new w9 v _, D9.out.alloc D9.out.size _⟩
  generalize (w9.alloc (Obj.cells #[.int .u64 (v.1 : Int), .int .u64 (v.2 : Int)] 29)) = wz at *
  generalize w9.heap.size = qz at *
  have F := KZ.factsC HX.out
  go_region_held3 (fun w => w.cell? ⟨qz, 0, none⟩ = some (.int .u64 (v.1 : Int)) ∧ w.cell? ⟨qz, 1, none⟩ = some (.int .u64 (v.2 : Int)) ∧ w.cell? ⟨bt, ot + c0 * 2, none⟩ = some (.int .u64 (v.1 : Int)) ∧ w.cell? ⟨bt, ot + c0 * 2 + 1, none⟩ = some (.int .u64 (v.2 : Int))) (first | (go_keep; done) | exact KZ.factsC HX.out | exact KZ.drew.factsC HX.out) (first | (go_at_call 6; refine (AW.go _).mono ?_; rintro e w' ⟨rfl, hb'⟩; have K' := Cvs.below (w' := w') (by first | exact KZ | exact KZ.drew) hb'; clear F KZ hb'; have KZ := K'; clear K'; have F := KZ.factsC HX.out))
  go_wp2
  go_ret
  exact ⟨rfl, KZ.d⟩
set_option maxHeartbeats 4000000 in
set_option maxRecDepth 100000 in
theorem cc_b1 (l : Int) (a : Option Addr) (cap K : Nat) (t : List (Nat × Nat)) (n i : Int) (hn : 16 < n) (g : Int) (_ht : ltE t) (h1 : t.length ≤ 64) (W : World) (hT : ERow W a t) (hK : K < 1) (hlg : lgz t.length = (K : Int) ∨ (lgz t.length = -1 ∧ K = 0)) (HLc : Hid (Ret 4 #[.int .i64 n] (.int .i64 g))) (HLr : Hid (Ret 5 #[.int .i64 n] (.int .i64 g))) (HCo : Hid (Ret 7 #[.int .i64 n, .int .i64 i] (.slice none 0 0))) :
    Calls Try.prog 3 #[.int .i64 l, .slice a t.length cap, .agg #[.int .i64 n, .int .i64 i]] W fun e w' => e = .returned (.bool true) ∧ Below W.heap.size W w' := by
  have AW := awake15
  have HR2 : Hid (∀ w, Below W.heap.size W w → Calls Try.prog 10 #[.slice a t.length cap] w fun e w' => ∃ a' cap', e = .returned (.slice a' t.length cap') ∧ ERow w' a' t ∧ Below w.heap.size w w') := fun w hb => ref_row a cap t (by omega) w (hT.below hb)
  obtain ⟨G, hG, HLt0⟩ : ∃ G : Int, (G = (K : Int) ∨ (G = -1 ∧ K = 0)) ∧ Ret 5 #[.int .i64 (t.length : Int)] (.int .i64 G) := ⟨_, hlg, rlog_any t.length⟩
  have HLt : Hid (Ret 5 #[.int .i64 (t.length : Int)] (.int .i64 G)) := HLt0
  have g1 : ¬ (64 : Int) < (t.length : Int) := by omega
  have g2 : (g != g) = false := by simp
  have hn' : ¬ n < 1 := by omega
  have hK' : (K : Int) < 1 := by omega
  have hG1 : G < 1 := by omega
  clear hT hK hK' hlg hG HLt0
  generalize hL : t.length = L at *
  clear hL
  go_enter Try.func3, Try.ntmps3
  go_wp2_with fail
  go_region_held3 (fun w => w.cell? ⟨W.heap.size, 0, none⟩ = some (.int .i64 n) ∧ w.cell? ⟨W.heap.size, 1, none⟩ = some (.int .i64 i)) (first | (go_keep; done) | (refine ⟨?_, ?_⟩ <;> simp [go_sem])) (fail)
  have D0 : Hid (Below W.heap.size W (W.alloc (Obj.cells #[.int .i64 n, .int .i64 i] 23)).drew) := (by go_grown : Below W.heap.size W (W.alloc (Obj.cells #[.int .i64 n, .int .i64 i] 23)).drew)
  go_wp2_with (first | (go_at_call 4; refine (HLc.out.go _).mono ?_; rintro e w1 ⟨rfl, hb1⟩; have D1 : Hid (Below W.heap.size W w1) := D0.out.trans (hb1.mono D0.out.size); clear hb1) | (go_at_call_of 5 (#[.int .i64 n] : Array Value); refine (HLr.out.go _).mono ?_; rintro e w2 ⟨rfl, hb2⟩; have D2 : Hid (Below W.heap.size W w2) := D1.out.trans (hb2.mono D1.out.size); clear hb2) | (go_at_call_of 7 (#[.int .i64 n, .int .i64 i] : Array Value); refine (HCo.out.go _).mono ?_; rintro e w3 ⟨rfl, hb3⟩; have D3 : Hid (Below W.heap.size W w3) := D2.out.trans (hb3.mono D2.out.size); clear hb3) | (go_at_call 5; refine (HLt.out.go _).mono ?_; rintro e w4 ⟨rfl, hb4⟩; have D4 : Hid (Below W.heap.size W w4) := D3.out.trans (hb4.mono D3.out.size); clear hb4) | (go_at_call 6; refine (AW.go _).mono ?_; rintro e w7 ⟨rfl, hb7⟩; have D7 : Hid (Below W.heap.size W w7) := D4.out.trans (hb7.mono D4.out.size); clear hb7))
  go_ret
  exact ⟨rfl, D7.out⟩
set_option maxHeartbeats 4000000 in
set_option maxRecDepth 100000 in
theorem cc_b2 (l : Int) (a : Option Addr) (cap K : Nat) (t : List (Nat × Nat)) (n i : Int) (hn : 16 < n) (g : Int) (ht : ltE t) (h1 : t.length ≤ 64) (W : World) (hT : ERow W a t) (hK : ¬ K < 1) (F : Int) (hF : fiE l t [] = F) (hF0 : ¬ F = 0) (hlg : lgz t.length = (K : Int) ∨ (lgz t.length = -1 ∧ K = 0)) (HLc : Hid (Ret 4 #[.int .i64 n] (.int .i64 g))) (HLr : Hid (Ret 5 #[.int .i64 n] (.int .i64 g))) (HCo : Hid (Ret 7 #[.int .i64 n, .int .i64 i] (.slice none 0 0))) :
    Calls Try.prog 3 #[.int .i64 l, .slice a t.length cap, .agg #[.int .i64 n, .int .i64 i]] W fun e w' => e = .returned (.bool true) ∧ Below W.heap.size W w' := by
  have AW := awake15
  have HR2 : Hid (∀ w, Below W.heap.size W w → Calls Try.prog 10 #[.slice a t.length cap] w fun e w' => ∃ a' cap', e = .returned (.slice a' t.length cap') ∧ ERow w' a' t ∧ Below w.heap.size w w') := fun w hb => ref_row a cap t (by omega) w (hT.below hb)
  obtain ⟨G, hG, HLt0⟩ : ∃ G : Int, (G = (K : Int) ∨ (G = -1 ∧ K = 0)) ∧ Ret 5 #[.int .i64 (t.length : Int)] (.int .i64 G) := ⟨_, hlg, rlog_any t.length⟩
  have HLt : Hid (Ret 5 #[.int .i64 (t.length : Int)] (.int .i64 G)) := HLt0
  have g1 : ¬ (64 : Int) < (t.length : Int) := by omega
  have g2 : (g != g) = false := by simp
  have hn' : ¬ n < 1 := by omega
  have hK' : ¬ (K : Int) < 1 := by omega
  have hF' : (F != 0) = true := by simp [hF0]
  have HM : Hid (∀ (w : World) (ax : Option Addr) (cx : Nat), ERow w ax t → Calls Try.prog 9 #[.int .i64 l, .slice ax t.length cx, .slice none 0 0] w fun e w' => e = .returned (.int .i64 F) ∧ Below w.heap.size w w') := fun w ax cx hx => by
    rw [← hF]; exact rmay_any l ax none cx 0 t [] ht (fun e he => by cases he) (by omega) (by simp) w hx ⟨fun i hi => by simp at hi⟩
  obtain rfl : G = (K : Int) := by omega
  clear hT ht hF hK hlg hG HLt0
  generalize hL : t.length = L at *
  clear hL
  go_enter Try.func3, Try.ntmps3
  go_wp2_with fail
  go_region_held3 (fun w => w.cell? ⟨W.heap.size, 0, none⟩ = some (.int .i64 n) ∧ w.cell? ⟨W.heap.size, 1, none⟩ = some (.int .i64 i)) (first | (go_keep; done) | (refine ⟨?_, ?_⟩ <;> simp [go_sem])) (fail)
  have D0 : Hid (Below W.heap.size W (W.alloc (Obj.cells #[.int .i64 n, .int .i64 i] 23)).drew) := (by go_grown : Below W.heap.size W (W.alloc (Obj.cells #[.int .i64 n, .int .i64 i] 23)).drew)
  go_wp2_with (first | (go_at_call 4; refine (HLc.out.go _).mono ?_; rintro e w1 ⟨rfl, hb1⟩; have D1 : Hid (Below W.heap.size W w1) := D0.out.trans (hb1.mono D0.out.size); clear hb1) | (go_at_call_of 5 (#[.int .i64 n] : Array Value); refine (HLr.out.go _).mono ?_; rintro e w2 ⟨rfl, hb2⟩; have D2 : Hid (Below W.heap.size W w2) := D1.out.trans (hb2.mono D1.out.size); clear hb2) | (go_at_call_of 7 (#[.int .i64 n, .int .i64 i] : Array Value); refine (HCo.out.go _).mono ?_; rintro e w3 ⟨rfl, hb3⟩; have D3 : Hid (Below W.heap.size W w3) := D2.out.trans (hb3.mono D2.out.size); clear hb3) | (go_at_call 5; refine (HLt.out.go _).mono ?_; rintro e w4 ⟨rfl, hb4⟩; have D4 : Hid (Below W.heap.size W w4) := D3.out.trans (hb4.mono D3.out.size); clear hb4) | (go_at_call 10; refine (HR2.out _ D4.out).mono ?_; rintro e w5 ⟨ax, cx, rfl, hx, hb5⟩; have D5 : Hid (Below W.heap.size W w5 ∧ ERow w5 ax t) := ⟨D4.out.trans (hb5.mono D4.out.size), hx⟩; clear hb5 hx) | (go_at_call 9; refine (HM.out _ ax cx D5.out.2).mono ?_; rintro e w6 ⟨rfl, hb6⟩; have D6 : Hid (Below W.heap.size W w6) := D5.out.1.trans (hb6.mono D5.out.1.size); clear hb6) | (go_at_call 6; refine (AW.go _).mono ?_; rintro e w7 ⟨rfl, hb7⟩; have D7 : Hid (Below W.heap.size W w7) := D6.out.trans (hb7.mono D6.out.size); clear hb7))
  go_ret
  exact ⟨rfl, D7.out⟩
set_option maxHeartbeats 4000000 in
set_option maxRecDepth 100000 in
theorem cc_b3 (l : Int) (a : Option Addr) (cap K : Nat) (t : List (Nat × Nat)) (n i : Int) (hn : 16 < n) (g : Int) (ht : ltE t) (h1 : t.length ≤ 64) (W : World) (hT : ERow W a t) (hK : ¬ K < 1) (hF : fiE l t [] = 0) (c0 q : Nat) (bt ot : Nat) (v : Nat × Nat) (e1 : IntKind.i64.wrap (i.tmod (t.length : Int) + (t.length : Int)) = (q : Int)) (e2 : (q : Int).tmod (t.length : Int) = (c0 : Int)) (hc0 : c0 < t.length) (HX : Hid (bt < W.heap.size ∧ W.cell? ⟨bt, ot + c0 * 2, none⟩ = some (.int .u64 (v.1 : Int)) ∧ W.cell? ⟨bt, ot + c0 * 2 + 1, none⟩ = some (.int .u64 (v.2 : Int)))) (ha : a = some ⟨bt, ot, none⟩) (HC2 : Hid (∀ w, Calls Try.prog 7 #[.int .i64 (K : Int), .int .i64 (c0 : Int)] w fun e w' => ∃ g, e = .returned (.slice (some ⟨g, 0, none⟩) K K) ∧ ERow w' (some ⟨g, 0, none⟩) (crn K c0) ∧ Below w.heap.size w w')) (HAt : Hid (∀ (w : World) (g : Nat), Below W.heap.size W w → ERow w (some ⟨g, 0, none⟩) (crn K c0) → Calls Try.prog 11 #[.int .i64 l, .slice a t.length cap, .slice (some ⟨g, 0, none⟩) K K] w fun e w' => e = .returned (.tuple #[.agg #[.int .u64 (v.1 : Int), .int .u64 (v.2 : Int)], .int .i64 0]) ∧ Below w.heap.size w w')) (hlg : lgz t.length = (K : Int) ∨ (lgz t.length = -1 ∧ K = 0)) (HLc : Hid (Ret 4 #[.int .i64 n] (.int .i64 g))) (HLr : Hid (Ret 5 #[.int .i64 n] (.int .i64 g))) (HCo : Hid (Ret 7 #[.int .i64 n, .int .i64 i] (.slice none 0 0))) :
    Calls Try.prog 3 #[.int .i64 l, .slice a t.length cap, .agg #[.int .i64 n, .int .i64 i]] W fun e w' => e = .returned (.bool true) ∧ Below W.heap.size W w' := by
  have AW := awake15
  have HR2 : Hid (∀ w, Below W.heap.size W w → Calls Try.prog 10 #[.slice a t.length cap] w fun e w' => ∃ a' cap', e = .returned (.slice a' t.length cap') ∧ ERow w' a' t ∧ Below w.heap.size w w') := fun w hb => ref_row a cap t (by omega) w (hT.below hb)
  obtain ⟨G, hG, HLt0⟩ : ∃ G : Int, (G = (K : Int) ∨ (G = -1 ∧ K = 0)) ∧ Ret 5 #[.int .i64 (t.length : Int)] (.int .i64 G) := ⟨_, hlg, rlog_any t.length⟩
  have HLt : Hid (Ret 5 #[.int .i64 (t.length : Int)] (.int .i64 G)) := HLt0
  have g1 : ¬ (64 : Int) < (t.length : Int) := by omega
  have g2 : (g != g) = false := by simp
  have hn' : ¬ n < 1 := by omega
  have hK' : ¬ (K : Int) < 1 := by omega
  have HM : Hid (∀ (w : World) (ax : Option Addr) (cx : Nat), ERow w ax t → Calls Try.prog 9 #[.int .i64 l, .slice ax t.length cx, .slice none 0 0] w fun e w' => e = .returned (.int .i64 0) ∧ Below w.heap.size w w') := fun w ax cx hx => by
    rw [← hF]; exact rmay_any l ax none cx 0 t [] ht (fun e he => by cases he) (by omega) (by simp) w hx ⟨fun i hi => by simp at hi⟩
  subst ha
  have q0 : ¬ (t.length : Int) = 0 := by omega
  have q1 : (c0 : Int) < (t.length : Int) := by omega
  obtain rfl : G = (K : Int) := by omega
  clear hT ht hF hK hlg hG HLt0
  generalize hL : t.length = L at *
  clear hL
  go_enter Try.func3, Try.ntmps3
  go_wp2_with fail
  go_region_held3 (fun w => w.cell? ⟨W.heap.size, 0, none⟩ = some (.int .i64 n) ∧ w.cell? ⟨W.heap.size, 1, none⟩ = some (.int .i64 i)) (first | (go_keep; done) | (refine ⟨?_, ?_⟩ <;> simp [go_sem])) (fail)
  have D0 : Hid (Below W.heap.size W (W.alloc (Obj.cells #[.int .i64 n, .int .i64 i] 23)).drew) := (by go_grown : Below W.heap.size W (W.alloc (Obj.cells #[.int .i64 n, .int .i64 i] 23)).drew)
  go_wp2_with (first | (go_at_call 4; refine (HLc.out.go _).mono ?_; rintro e w1 ⟨rfl, hb1⟩; have D1 : Hid (Below W.heap.size W w1) := D0.out.trans (hb1.mono D0.out.size); clear hb1) | (go_at_call_of 5 (#[.int .i64 n] : Array Value); refine (HLr.out.go _).mono ?_; rintro e w2 ⟨rfl, hb2⟩; have D2 : Hid (Below W.heap.size W w2) := D1.out.trans (hb2.mono D1.out.size); clear hb2) | (go_at_call_of 7 (#[.int .i64 n, .int .i64 i] : Array Value); refine (HCo.out.go _).mono ?_; rintro e w3 ⟨rfl, hb3⟩; have D3 : Hid (Below W.heap.size W w3) := D2.out.trans (hb3.mono D2.out.size); clear hb3) | (go_at_call 5; refine (HLt.out.go _).mono ?_; rintro e w4 ⟨rfl, hb4⟩; have D4 : Hid (Below W.heap.size W w4) := D3.out.trans (hb4.mono D3.out.size); clear hb4) | (go_at_call 10; refine (HR2.out _ D4.out).mono ?_; rintro e w5 ⟨ax, cx, rfl, hx, hb5⟩; have D5 : Hid (Below W.heap.size W w5 ∧ ERow w5 ax t) := ⟨D4.out.trans (hb5.mono D4.out.size), hx⟩; clear hb5 hx) | (go_at_call 9; refine (HM.out _ ax cx D5.out.2).mono ?_; rintro e w6 ⟨rfl, hb6⟩; have D6 : Hid (Below W.heap.size W w6) := D5.out.1.trans (hb6.mono D5.out.1.size); clear hb6) | (go_at_call 7; refine (HC2.out _).mono ?_; rintro e w8 ⟨gg, rfl, hE8, hb8⟩; have D8 : Hid (Below W.heap.size W w8 ∧ ERow w8 (some ⟨gg, 0, none⟩) (crn K c0)) := ⟨D6.out.trans (hb8.mono D6.out.size), hE8⟩; clear hb8 hE8) | (go_at_call 11; refine (HAt.out _ gg D8.out.1 D8.out.2).mono ?_; rintro e w9 ⟨rfl, hb9⟩; have D9 : Hid (Below W.heap.size W w9) := D8.out.1.trans (hb9.mono D8.out.1.size); clear hb9))
  have KZ : Cvs W (w9.alloc (Obj.cells #[.int .u64 (v.1 : Int), .int .u64 (v.2 : Int)] 29)) w9.heap.size v := ⟨El.new w9 v _, D9.out.alloc D9.out.size _⟩
  generalize (w9.alloc (Obj.cells #[.int .u64 (v.1 : Int), .int .u64 (v.2 : Int)] 29)) = wz at *
  generalize w9.heap.size = qz at *
  have F := KZ.factsC HX.out
  go_region_held3 (fun w => w.cell? ⟨qz, 0, none⟩ = some (.int .u64 (v.1 : Int)) ∧ w.cell? ⟨qz, 1, none⟩ = some (.int .u64 (v.2 : Int)) ∧ w.cell? ⟨bt, ot + c0 * 2, none⟩ = some (.int .u64 (v.1 : Int)) ∧ w.cell? ⟨bt, ot + c0 * 2 + 1, none⟩ = some (.int .u64 (v.2 : Int))) (first | (go_keep; done) | exact KZ.factsC HX.out | exact KZ.drew.factsC HX.out) (first | (go_at_call 6; refine (AW.go _).mono ?_; rintro e w' ⟨rfl, hb'⟩; have K' := Cvs.below (w' := w') (by first | exact KZ | exact KZ.drew) hb'; clear F KZ hb'; have KZ := K'; clear K'; have F := KZ.factsC HX.out))
  go_wp2
  go_ret
  exact ⟨rfl, KZ.d⟩
end Go.Proofs.Ytkjgbkjhdmipoaa
