/- The walk of LinpolyZeros over the seat's translation. -/
import Derived.Test.YtnecjkdlmecgdaaPRowSp
import Derived.Test.YtnecjkdlmecgdaaLqG
namespace Go.Proofs.Ytnecjkdlmecgdaa
open Go.RowKit
open Cb Rg Sq Lq
open Tw (pm)

/-- The boxes of the law's arguments. -/
structure Zb (W w : World) (l : Int) (sl : Value) (x y : Nat × Nat) : Prop where
  s0 : w.cell? ⟨W.heap.size, 0, none⟩ = some (.int .i64 l)
  s1 : w.cell? ⟨W.heap.size, 1, none⟩ = some sl
  x1 : w.cell? ⟨W.heap.size + 1, 0, none⟩ = some (.int .u64 (x.1 : Int))
  x0 : w.cell? ⟨W.heap.size + 1, 1, none⟩ = some (.int .u64 (x.2 : Int))
  y1 : w.cell? ⟨W.heap.size + 1, 2, none⟩ = some (.int .u64 (y.1 : Int))
  y0 : w.cell? ⟨W.heap.size + 1, 3, none⟩ = some (.int .u64 (y.2 : Int))
  d : Below W.heap.size W w
theorem Zb.below {W w w' : World} {l : Int} {sl : Value} {x y : Nat × Nat} (h : Zb W w l sl x y) (hb : Below w.heap.size w w') : Zb W w' l sl x y :=
  ⟨keepc hb h.s0, keepc hb h.s1, keepc hb h.x1, keepc hb h.x0, keepc hb h.y1, keepc hb h.y0, h.d.trans (hb.mono h.d.size)⟩
theorem Zb.new (W : World) (l : Int) (a : Option Addr) (n cap : Nat) (x y : Nat × Nat) : Zb W ((W.alloc (Obj.cells #[.int .i64 l, .slice a n cap] 24)).alloc (Obj.cells #[.int .u64 (x.1 : Int), .int .u64 (x.2 : Int), .int .u64 (y.1 : Int), .int .u64 (y.2 : Int)] 57)) l (.slice a n cap) x y := ⟨by simp [go_sem], by simp [go_sem], by simp [go_sem], by simp [go_sem], by simp [go_sem], by simp [go_sem], by go_grown⟩
set_option maxHeartbeats 2000000 in
theorem lz_none (l : Int) (a : Option Addr) (cap : Nat) (es : List (Nat × Nat)) (hes : ltE es) (i : Int) (x y : Nat × Nat) (h : ¬ Ok5 l es) (W : World) (hr : ERow W a es) :
    Calls Try.prog 6 #[.agg #[.int .i64 l, .slice a es.length cap], .int .i64 i, .agg #[.int .u64 (x.1 : Int), .int .u64 (x.2 : Int), .int .u64 (y.1 : Int), .int .u64 (y.2 : Int)]] W fun e w' => e = .returned (.bool true) ∧ Below W.heap.size W w' := by
  have HA := hidT awake5
  have HM := hidT (fun w (hb : Below W.heap.size W w) => made_no l a cap es hes h w (hr.below hb))
  clear h hr hes
  generalize es.length = n at *
  go_enter Try.func6, Try.ntmps6
  go_wp2_with (first
    | (go_at_call 21; refine (HM.out _ (Zb.new W l a n cap x y).d).mono ?_; rintro e w1 ⟨rfl, hb1⟩; have K1 := hidT ((Zb.new W l a n cap x y).below hb1); clear hb1)
    | (go_at_call 9; refine (HA.out.go _).mono ?_; rintro e w2 ⟨rfl, hb2⟩))
  go_ret
  exact ⟨rfl, K1.out.d.trans (hb2.mono K1.out.d.size)⟩
/-- What the law goes on with. -/
structure Zm (W w : World) (k : Nat) (es ts : List (Nat × Nat)) (p : Nat) (a' aT aB : Option Addr) (c cT cB : Nat) (sl : Value) (x y : Nat × Nat) : Prop where
  b : Zb W w (k : Int) sl x y
  s : Spa w p k es ts a' aT aB c cT cB
theorem Zm.below {W w w' : World} {k : Nat} {es ts : List (Nat × Nat)} {p : Nat} {a' aT aB : Option Addr} {c cT cB : Nat} {sl : Value} {x y : Nat × Nat} (h : Zm W w k es ts p a' aT aB c cT cB sl x y) (hb : Below w.heap.size w w') : Zm W w' k es ts p a' aT aB c cT cB sl x y := ⟨h.b.below hb, h.s.below hb⟩
set_option maxHeartbeats 4000000 in
theorem lz_neg (k : Nat) (hk : k < 8) (a : Option Addr) (cap : Nat) (es : List (Nat × Nat)) (hes : ltE es) (ha : a = none → es.length = 0 ∧ cap = 0) (i : Int) (x y : Nat × Nat) (lx : lt2 x) (ly : lt2 y) (h : Ok5 (k : Int) es) (ot : ofT k es) (h0 : i < 0) (W : World) (hr : ERow W a es) :
    Calls Try.prog 6 #[.agg #[.int .i64 (k : Int), .slice a es.length cap], .int .i64 i, .agg #[.int .u64 (x.1 : Int), .int .u64 (x.2 : Int), .int .u64 (y.1 : Int), .int .u64 (y.2 : Int)]] W fun e w' => e = .returned (.bool true) ∧ Below W.heap.size W w' := by
  have HA := hidT awake5
  have HM := hidT (fun w (hb : Below W.heap.size W w) => made_ok (k : Int) k hk rfl a cap es hes ha h ot w (hr.below hb))
  have HX := hidT (rof_any (k : Int) x.1 x.2 lx.1 lx.2)
  have HY := hidT (rof_any (k : Int) y.1 y.2 ly.1 ly.2)
  clear h hr hes ha lx ly ot
  go_enter Try.func6, Try.ntmps6
  go_wp2_with (first
    | (go_at_call 21; refine (HM.out _ (Zb.new W (k : Int) a es.length cap x y).d).mono ?_; rintro e w1 ⟨p, ts, a', aT, aB, c, cT, cB, rfl, hS, hU, hb1⟩; have K1 : Hid (Zm W w1 k es ts p a' aT aB c cT cB (.slice a es.length cap) x y) := ⟨(Zb.new W (k : Int) a es.length cap x y).below hb1, hS⟩; have U1 := hidT hU; obtain ⟨s0, s1, x1, x0, y1, y0, _⟩ := K1.out.b; clear hb1 hS hU)
    | (go_at_call 9; refine (HA.out.go _).mono ?_; rintro e w9 ⟨rfl, hb9⟩; have K9 := hidT (K1.out.below hb9)))
  go_ret
  exact ⟨rfl, K9.out.b.d⟩
set_option maxHeartbeats 4000000 in
theorem lz_big (k : Nat) (hk : k < 8) (a : Option Addr) (cap : Nat) (es : List (Nat × Nat)) (hes : ltE es) (ha : a = none → es.length = 0 ∧ cap = 0) (i : Int) (x y : Nat × Nat) (lx : lt2 x) (ly : lt2 y) (h : Ok5 (k : Int) es) (ot : ofT k es) (h0 : ¬ i < 0) (h1 : (es.length : Int) < i) (W : World) (hr : ERow W a es) :
    Calls Try.prog 6 #[.agg #[.int .i64 (k : Int), .slice a es.length cap], .int .i64 i, .agg #[.int .u64 (x.1 : Int), .int .u64 (x.2 : Int), .int .u64 (y.1 : Int), .int .u64 (y.2 : Int)]] W fun e w' => e = .returned (.bool true) ∧ Below W.heap.size W w' := by
  have HA := hidT awake5
  have HM := hidT (fun w (hb : Below W.heap.size W w) => made_ok (k : Int) k hk rfl a cap es hes ha h ot w (hr.below hb))
  have HX := hidT (rof_any (k : Int) x.1 x.2 lx.1 lx.2)
  have HY := hidT (rof_any (k : Int) y.1 y.2 ly.1 ly.2)
  clear h hr hes ha lx ly ot
  go_enter Try.func6, Try.ntmps6
  go_wp2_with (first
    | (go_at_call 21; refine (HM.out _ (Zb.new W (k : Int) a es.length cap x y).d).mono ?_; rintro e w1 ⟨p, ts, a', aT, aB, c, cT, cB, rfl, hS, hU, hb1⟩; have K1 : Hid (Zm W w1 k es ts p a' aT aB c cT cB (.slice a es.length cap) x y) := ⟨(Zb.new W (k : Int) a es.length cap x y).below hb1, hS⟩; have U1 := hidT hU; obtain ⟨s0, s1, x1, x0, y1, y0, _⟩ := K1.out.b; clear hb1 hS hU)
    | (go_at_call 9; refine (HA.out.go _).mono ?_; rintro e w9 ⟨rfl, hb9⟩; have K9 := hidT (K1.out.below hb9)))
  go_ret
  exact ⟨rfl, K9.out.b.d⟩
set_option maxHeartbeats 4000000 in
theorem lz_x (k : Nat) (hk : k < 8) (a : Option Addr) (cap : Nat) (es : List (Nat × Nat)) (hes : ltE es) (ha : a = none → es.length = 0 ∧ cap = 0) (i : Int) (x y : Nat × Nat) (lx : lt2 x) (ly : lt2 y) (h : Ok5 (k : Int) es) (ot : ofT k es) (h0 : ¬ i < 0) (h1 : ¬ (es.length : Int) < i) (ox : ofB (k : Int) (x.1 : Int) (x.2 : Int) = false) (W : World) (hr : ERow W a es) :
    Calls Try.prog 6 #[.agg #[.int .i64 (k : Int), .slice a es.length cap], .int .i64 i, .agg #[.int .u64 (x.1 : Int), .int .u64 (x.2 : Int), .int .u64 (y.1 : Int), .int .u64 (y.2 : Int)]] W fun e w' => e = .returned (.bool true) ∧ Below W.heap.size W w' := by
  have HA := hidT awake5
  have HM := hidT (fun w (hb : Below W.heap.size W w) => made_ok (k : Int) k hk rfl a cap es hes ha h ot w (hr.below hb))
  have HX := hidT (rof_any (k : Int) x.1 x.2 lx.1 lx.2)
  have HY := hidT (rof_any (k : Int) y.1 y.2 ly.1 ly.2)
  rw [ox] at HX
  clear h hr hes ha lx ly ot
  go_enter Try.func6, Try.ntmps6
  go_wp2_with (first
    | (go_at_call 21; refine (HM.out _ (Zb.new W (k : Int) a es.length cap x y).d).mono ?_; rintro e w1 ⟨p, ts, a', aT, aB, c, cT, cB, rfl, hS, hU, hb1⟩; have K1 : Hid (Zm W w1 k es ts p a' aT aB c cT cB (.slice a es.length cap) x y) := ⟨(Zb.new W (k : Int) a es.length cap x y).below hb1, hS⟩; have U1 := hidT hU; obtain ⟨s0, s1, x1, x0, y1, y0, _⟩ := K1.out.b; clear hb1 hS hU)
    | (go_at_call_of 16 (#[.int .i64 (k : Int), .agg #[.int .u64 (x.1 : Int), .int .u64 (x.2 : Int)]] : Array Value); refine (HX.out.go _).mono ?_; rintro e w2 ⟨rfl, hb2⟩; have K2 := hidT (K1.out.below hb2); clear s0 s1 x1 x0 y1 y0 hb2 K1; obtain ⟨s0, s1, x1, x0, y1, y0, _⟩ := K2.out.b)
    | (go_at_call 9; refine (HA.out.go _).mono ?_; rintro e w9 ⟨rfl, hb9⟩; have K9 := hidT (K2.out.below hb9)))
  go_ret
  exact ⟨rfl, K9.out.b.d⟩
set_option maxHeartbeats 4000000 in
theorem lz_y (k : Nat) (hk : k < 8) (a : Option Addr) (cap : Nat) (es : List (Nat × Nat)) (hes : ltE es) (ha : a = none → es.length = 0 ∧ cap = 0) (i : Int) (x y : Nat × Nat) (lx : lt2 x) (ly : lt2 y) (h : Ok5 (k : Int) es) (ot : ofT k es) (h0 : ¬ i < 0) (h1 : ¬ (es.length : Int) < i) (ox : ofB (k : Int) (x.1 : Int) (x.2 : Int) = true) (oy : ofB (k : Int) (y.1 : Int) (y.2 : Int) = false) (W : World) (hr : ERow W a es) :
    Calls Try.prog 6 #[.agg #[.int .i64 (k : Int), .slice a es.length cap], .int .i64 i, .agg #[.int .u64 (x.1 : Int), .int .u64 (x.2 : Int), .int .u64 (y.1 : Int), .int .u64 (y.2 : Int)]] W fun e w' => e = .returned (.bool true) ∧ Below W.heap.size W w' := by
  have HA := hidT awake5
  have HM := hidT (fun w (hb : Below W.heap.size W w) => made_ok (k : Int) k hk rfl a cap es hes ha h ot w (hr.below hb))
  have HX := hidT (rof_any (k : Int) x.1 x.2 lx.1 lx.2)
  have HY := hidT (rof_any (k : Int) y.1 y.2 ly.1 ly.2)
  rw [ox] at HX
  rw [oy] at HY
  clear h hr hes ha lx ly ot
  go_enter Try.func6, Try.ntmps6
  go_wp2_with (first
    | (go_at_call 21; refine (HM.out _ (Zb.new W (k : Int) a es.length cap x y).d).mono ?_; rintro e w1 ⟨p, ts, a', aT, aB, c, cT, cB, rfl, hS, hU, hb1⟩; have K1 : Hid (Zm W w1 k es ts p a' aT aB c cT cB (.slice a es.length cap) x y) := ⟨(Zb.new W (k : Int) a es.length cap x y).below hb1, hS⟩; have U1 := hidT hU; obtain ⟨s0, s1, x1, x0, y1, y0, _⟩ := K1.out.b; clear hb1 hS hU)
    | (go_at_call_of 16 (#[.int .i64 (k : Int), .agg #[.int .u64 (x.1 : Int), .int .u64 (x.2 : Int)]] : Array Value); refine (HX.out.go _).mono ?_; rintro e w2 ⟨rfl, hb2⟩; have K2 := hidT (K1.out.below hb2); clear s0 s1 x1 x0 y1 y0 hb2 K1; obtain ⟨s0, s1, x1, x0, y1, y0, _⟩ := K2.out.b)
    | (go_at_call_of 16 (#[.int .i64 (k : Int), .agg #[.int .u64 (y.1 : Int), .int .u64 (y.2 : Int)]] : Array Value); refine (HY.out.go _).mono ?_; rintro e w3 ⟨rfl, hb3⟩; have K3 := hidT (K2.out.below hb3); clear s0 s1 x1 x0 y1 y0 hb3 K2; obtain ⟨s0, s1, x1, x0, y1, y0, _⟩ := K3.out.b)
    | (go_at_call 9; refine (HA.out.go _).mono ?_; rintro e w9 ⟨rfl, hb9⟩; have K9 := hidT (K3.out.below hb9)))
  go_ret
  exact ⟨rfl, K9.out.b.d⟩
end Go.Proofs.Ytnecjkdlmecgdaa
