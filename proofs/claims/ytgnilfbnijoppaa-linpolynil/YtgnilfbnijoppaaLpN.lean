/- Walk of steeplelaw05.LinpolyNil over the seat's translation. -/
import Derived.Test.YtgnilfbnijoppaaLpC
namespace Go.Proofs.Ytgnilfbnijoppaa
open Go.RowKit

set_option maxHeartbeats 4000000 in
set_option maxRecDepth 100000 in
theorem linnil_core (i : Int) (xh xl : Nat) (AW : Ret 9 #[] (.bool true)) (W : World) :
    Calls Try.prog 8 #[.int .i64 i, .agg #[.int .u64 (xh : Int), .int .u64 (xl : Int)]] W fun e w' => e = .returned (.bool true) ∧ Below W.heap.size W w' := by
  have H1 := nil_level
  have H2 := nil_dim
  have H3 := nil_points i xh xl
  have H4 := nil_coeffs i
  have H5 := nil_point i
  have H6 := nil_value i xh xl
  have H7 := nil_norm i xh xl
  have iz : IntKind.i64.wrap 0 = 0 := by decide
  go_enter Try.func8, Try.ntmps8
  go_upto_region 2 with fail
  have B : Bl W (W.alloc (Obj.cells #[.int .u64 (xh : Int), .int .u64 (xl : Int)] 27)) [(W.heap.size, xh, xl)] [] := ⟨⟨⟨by simp [go_sem], by simp [go_sem]⟩, trivial⟩, trivial, by go_grown⟩
  generalize W.alloc (Obj.cells #[.int .u64 (xh : Int), .int .u64 (xl : Int)] 27) = w3 at *
  have F := B.facts
  simp only [Els, Wrs, and_true] at F
  go_region_held3 (fun w => w.cell? ⟨W.heap.size, 0, none⟩ = some (.int .u64 (xh : Int)) ∧ w.cell? ⟨W.heap.size, 1, none⟩ = some (.int .u64 (xl : Int))) (go_keep) (first | (go_at_call 9; refine (AW.go _).mono ?_; rintro e w' ⟨rfl, hb'⟩; have B'' := Bl.below (w' := w') (by first | exact B | exact B.drew) hb'; clear F B hb'; have B := B''; clear B''; (try simp only [World.size_drew] at B); have F := B.facts; simp only [Els, Wrs, and_true] at F; have N := B.nes; simp only [Nes, List.map, and_true] at N; have N2 := B.b.size) | (go_at_call 13; refine (H1.go _).mono ?_; rintro e w' ⟨rfl, hb'⟩; have B'' := Bl.below (w' := w') (by first | exact B | exact B.drew) hb'; clear F B hb'; have B := B''; clear B''; (try simp only [World.size_drew] at B); have F := B.facts; simp only [Els, Wrs, and_true] at F; have N := B.nes; simp only [Nes, List.map, and_true] at N; have N2 := B.b.size) | (go_at_call 14; refine (H2.go _).mono ?_; rintro e w' ⟨rfl, hb'⟩; have B'' := Bl.below (w' := w') (by first | exact B | exact B.drew) hb'; clear F B hb'; have B := B''; clear B''; (try simp only [World.size_drew] at B); have F := B.facts; simp only [Els, Wrs, and_true] at F; have N := B.nes; simp only [Nes, List.map, and_true] at N; have N2 := B.b.size) | (go_at_call 15; refine (H3.go _).mono ?_; rintro e w' ⟨rfl, hb'⟩; have B'' := Bl.below (w' := w') (by first | exact B | exact B.drew) hb'; clear F B hb'; have B := B''; clear B''; (try simp only [World.size_drew] at B); have F := B.facts; simp only [Els, Wrs, and_true] at F; have N := B.nes; simp only [Nes, List.map, and_true] at N; have N2 := B.b.size) | (go_at_call 31; refine (H4.go _).mono ?_; rintro e w' ⟨rfl, hb'⟩; have B'' := Bl.below (w' := w') (by first | exact B | exact B.drew) hb'; clear F B hb'; have B := B''; clear B''; (try simp only [World.size_drew] at B); have F := B.facts; simp only [Els, Wrs, and_true] at F; have N := B.nes; simp only [Nes, List.map, and_true] at N; have N2 := B.b.size) | (go_at_call 17; refine (H5.go _).mono ?_; rintro e w' ⟨rfl, hb'⟩; have B'' := Bl.below (w' := w') (by first | exact B | exact B.drew) hb'; clear F B hb'; have B := B''; clear B''; (try simp only [World.size_drew] at B); have F := B.facts; simp only [Els, Wrs, and_true] at F; have N := B.nes; simp only [Nes, List.map, and_true] at N; have N2 := B.b.size) | (go_at_call 24; refine (H6.go _).mono ?_; rintro e w' ⟨rfl, hb'⟩; have B'' := Bl.below (w' := w') (by first | exact B | exact B.drew) hb'; clear F B hb'; have B := B''; clear B''; (try simp only [World.size_drew] at B); have F := B.facts; simp only [Els, Wrs, and_true] at F; have N := B.nes; simp only [Nes, List.map, and_true] at N; have N2 := B.b.size) | (go_at_call 25; refine (H7.go _).mono ?_; rintro e w' ⟨rfl, hb'⟩; have B'' := Bl.below (w' := w') (by first | exact B | exact B.drew) hb'; clear F B hb'; have B := B''; clear B''; (try simp only [World.size_drew] at B); have F := B.facts; simp only [Els, Wrs, and_true] at F; have N := B.nes; simp only [Nes, List.map, and_true] at N; have N2 := B.b.size))
  all_goals
    go_wp2
    go_ret
    exact ⟨rfl, B.b⟩
end Go.Proofs.Ytgnilfbnijoppaa
