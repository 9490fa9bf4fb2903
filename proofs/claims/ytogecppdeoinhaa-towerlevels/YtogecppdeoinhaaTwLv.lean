/- The walk of steeplelaw02.TowerLevels over the seat's translation. -/
import Derived.Test.YtogecppdeoinhaaTwC2
namespace Go.Proofs.Ytogecppdeoinhaa
open Go.RowKit

set_option maxHeartbeats 8000000 in
set_option maxRecDepth 100000 in
theorem levels_core (level above : Int) (k j up : Int) (ah al bh bl ch cl xh xl yh yl ph pl ih il qh ql : Nat) (fj : (wrap64 (above.tmod 8 + 8)).tmod 8 = j) (hk0 : 0 ≤ k) (hk7 : k ≤ 7) (hj0 : 0 ≤ j) (hj7 : j ≤ 7) (fu : min (k + j) 7 = up)
    (HOF : Cut2 level k ah al bh bl xh xl yh yl)
    (M1 : Ret 15 #[.int .i64 (k : Int), .agg #[.int .u64 (xh : Int), .int .u64 (xl : Int)], .agg #[.int .u64 (yh : Int), .int .u64 (yl : Int)]] (.agg #[.int .u64 (ph : Int), .int .u64 (pl : Int)]))
    (M2 : Ret 15 #[.int .i64 (up : Int), .agg #[.int .u64 (xh : Int), .int .u64 (xl : Int)], .agg #[.int .u64 (yh : Int), .int .u64 (yl : Int)]] (.agg #[.int .u64 (ph : Int), .int .u64 (pl : Int)]))
    (I1 : Ret 30 #[.int .i64 (k : Int), .agg #[.int .u64 (xh : Int), .int .u64 (xl : Int)]] (.agg #[.int .u64 (ih : Int), .int .u64 (il : Int)]))
    (I2 : Ret 30 #[.int .i64 (up : Int), .agg #[.int .u64 (xh : Int), .int .u64 (xl : Int)]] (.agg #[.int .u64 (ih : Int), .int .u64 (il : Int)]))
    (S1 : Ret 17 #[.int .i64 (k : Int), .agg #[.int .u64 (xh : Int), .int .u64 (xl : Int)]] (.agg #[.int .u64 (qh : Int), .int .u64 (ql : Int)]))
    (S2 : Ret 17 #[.int .i64 (up : Int), .agg #[.int .u64 (xh : Int), .int .u64 (xl : Int)]] (.agg #[.int .u64 (qh : Int), .int .u64 (ql : Int)]))
    (O1 : Ret 29 #[.int .i64 (k : Int), .agg #[.int .u64 (ph : Int), .int .u64 (pl : Int)]] (.bool true))
    (O2 : Ret 29 #[.int .i64 (k : Int), .agg #[.int .u64 (ih : Int), .int .u64 (il : Int)]] (.bool true))
    (AW : Ret 10 #[] (.bool true))
    (W : World) :
    Calls Try.prog 8 #[.int .i64 level, .int .i64 above, .agg #[.int .u64 (ah : Int), .int .u64 (al : Int), .int .u64 (bh : Int), .int .u64 (bl : Int), .int .u64 (ch : Int), .int .u64 (cl : Int)]] W fun e w' => e = .returned (.bool true) ∧ Below W.heap.size W w' := by
  go_enter Try.func8, Try.ntmps8
  go_wp2_with fail
  refine Calls.mono (HOF _ _ _ ?b ?x1 ?y1 ?y2) ?_
  case b => simp
  case x1 => exact ⟨by simp [go_sem], by simp [go_sem]⟩
  case y1 => simp [go_sem]
  case y2 => simp [go_sem]
  rintro e w1 ⟨g, cap2, rfl, ⟨e1, e0⟩, y1, y0, hb1⟩
  have HB : Hid (Below W.heap.size W w1) := (((Below.refl _ _).alloc (Nat.le_refl _) _).alloc (by simp) _).trans (hb1.mono (by simp <;> omega))
  have hg : g < w1.heap.size := (El.mk e1 e0).lt
  have hn0 : ¬ g = w1.heap.size := by omega
  have hn1 : ¬ g = w1.heap.size + 1 := by omega
  have hl1 : g < w1.heap.size + 1 := by omega
  clear HOF hb1
  go_upto_region 2 with fail
  go_cut [9, 10] (fun s7 s8 w => ∃ p9 p10, s7 = .pointer (some ⟨p9, 0, none⟩) ∧ s8 = .pointer (some ⟨p10, 0, none⟩) ∧ Bl W w [(p9, xh, xl), (p10, yh, yl)] [])
  case first =>
    go_region
    all_goals
      go_wp2_with fail
      go_meet
      exact ⟨_, _, rfl, rfl, ⟨⟨by simp [go_sem], by simp [go_sem]⟩, ⟨by simp [go_sem], by simp [go_sem]⟩, trivial⟩, trivial, HB.out.trans (by have := HB.out.size; go_grown)⟩
  case rest =>
    obtain ⟨p9, p10, rfl, rfl, B0⟩ := hcut
    clear e1 e0 y1 y0 HB hg hn0 hn1 hl1
    have F := B0.facts
    simp only [Els, Wrs, and_true] at F
    obtain ⟨⟨f1, f2⟩, f3, f4⟩ := F
    go_wp2_with fail
    refine (M1.go _).mono ?_
    rintro e w2 ⟨rfl, hb2⟩
    have B := (B0.below hb2).laid ph pl
    clear f1 f2 f3 f4 B0 hb2 fj fu
    go_upto_region 5 with fail
    generalize w2.alloc (Obj.cells #[.int .u64 (ph : Int), .int .u64 (pl : Int)] 24) = w3 at *
    generalize w2.heap.size = p12 at *
    have F := B.facts
    simp only [Els, Wrs, and_true] at F
    go_region_held3 (fun w => w.cell? ⟨p12, 0, none⟩ = some (.int .u64 (ph : Int)) ∧ w.cell? ⟨p12, 1, none⟩ = some (.int .u64 (pl : Int)) ∧ w.cell? ⟨p9, 0, none⟩ = some (.int .u64 (xh : Int)) ∧ w.cell? ⟨p9, 1, none⟩ = some (.int .u64 (xl : Int)) ∧ w.cell? ⟨p10, 0, none⟩ = some (.int .u64 (yh : Int)) ∧ w.cell? ⟨p10, 1, none⟩ = some (.int .u64 (yl : Int))) (go_keep) (first | (go_at_call 10; refine (AW.go _).mono ?_; rintro e w' ⟨rfl, hb'⟩; have B'' := Bl.below (w' := w') (by first | exact B | exact B.drew | exact B.room | exact B.drew.room | exact B.room.drew | exact B.alloc _ | exact B.drew.alloc _ | exact (B.alloc _).drew) hb'; clear F B hb'; have B := B''; clear B''; (try simp only [World.size_drew] at B); have F := B.facts; simp only [Els, Wrs, and_true] at F; have N := B.nes; simp only [Nes, List.map, and_true] at N; have N2 := B.b.size) | (go_at_call_of 29 (#[.int .i64 (k : Int), .agg #[.int .u64 (ph : Int), .int .u64 (pl : Int)]] : Array Value); refine (O1.go _).mono ?_; rintro e w' ⟨rfl, hb'⟩; have B'' := Bl.below (w' := w') (by first | exact B | exact B.drew | exact B.room | exact B.drew.room | exact B.room.drew | exact B.alloc _ | exact B.drew.alloc _ | exact (B.alloc _).drew) hb'; clear F B hb'; have B := B''; clear B''; (try simp only [World.size_drew] at B); have F := B.facts; simp only [Els, Wrs, and_true] at F; have N := B.nes; simp only [Nes, List.map, and_true] at N; have N2 := B.b.size) | (go_at_call_of 29 (#[.int .i64 (k : Int), .agg #[.int .u64 (ih : Int), .int .u64 (il : Int)]] : Array Value); refine (O2.go _).mono ?_; rintro e w' ⟨rfl, hb'⟩; have B'' := Bl.below (w' := w') (by first | exact B | exact B.drew | exact B.room | exact B.drew.room | exact B.room.drew | exact B.alloc _ | exact B.drew.alloc _ | exact (B.alloc _).drew) hb'; clear F B hb'; have B := B''; clear B''; (try simp only [World.size_drew] at B); have F := B.facts; simp only [Els, Wrs, and_true] at F; have N := B.nes; simp only [Nes, List.map, and_true] at N; have N2 := B.b.size) | (go_at_call_of 15 (#[.int .i64 (up : Int), .agg #[.int .u64 (xh : Int), .int .u64 (xl : Int)], .agg #[.int .u64 (yh : Int), .int .u64 (yl : Int)]] : Array Value); refine (M2.go _).mono ?_; rintro e w' ⟨rfl, hb'⟩; have B'' := Bl.below (w' := w') (by first | exact B | exact B.drew | exact B.room | exact B.drew.room | exact B.room.drew | exact B.alloc _ | exact B.drew.alloc _ | exact (B.alloc _).drew) hb'; clear F B hb'; have B := B''; clear B''; (try simp only [World.size_drew] at B); have F := B.facts; simp only [Els, Wrs, and_true] at F; have N := B.nes; simp only [Nes, List.map, and_true] at N; have N2 := B.b.size) | (go_at_call_of 30 (#[.int .i64 (k : Int), .agg #[.int .u64 (xh : Int), .int .u64 (xl : Int)]] : Array Value); refine (I1.go _).mono ?_; rintro e w' ⟨rfl, hb'⟩; have B'' := Bl.below (w' := w') (by first | exact B | exact B.drew | exact B.room | exact B.drew.room | exact B.room.drew | exact B.alloc _ | exact B.drew.alloc _ | exact (B.alloc _).drew) hb'; clear F B hb'; have B := B''; clear B''; (try simp only [World.size_drew] at B); have F := B.facts; simp only [Els, Wrs, and_true] at F; have N := B.nes; simp only [Nes, List.map, and_true] at N; have N2 := B.b.size) | (go_at_call_of 30 (#[.int .i64 (up : Int), .agg #[.int .u64 (xh : Int), .int .u64 (xl : Int)]] : Array Value); refine (I2.go _).mono ?_; rintro e w' ⟨rfl, hb'⟩; have B'' := Bl.below (w' := w') (by first | exact B | exact B.drew | exact B.room | exact B.drew.room | exact B.room.drew | exact B.alloc _ | exact B.drew.alloc _ | exact (B.alloc _).drew) hb'; clear F B hb'; have B := B''; clear B''; (try simp only [World.size_drew] at B); have F := B.facts; simp only [Els, Wrs, and_true] at F; have N := B.nes; simp only [Nes, List.map, and_true] at N; have N2 := B.b.size) | (go_at_call_of 17 (#[.int .i64 (k : Int), .agg #[.int .u64 (xh : Int), .int .u64 (xl : Int)]] : Array Value); refine (S1.go _).mono ?_; rintro e w' ⟨rfl, hb'⟩; have B'' := Bl.below (w' := w') (by first | exact B | exact B.drew | exact B.room | exact B.drew.room | exact B.room.drew | exact B.alloc _ | exact B.drew.alloc _ | exact (B.alloc _).drew) hb'; clear F B hb'; have B := B''; clear B''; (try simp only [World.size_drew] at B); have F := B.facts; simp only [Els, Wrs, and_true] at F; have N := B.nes; simp only [Nes, List.map, and_true] at N; have N2 := B.b.size) | (go_at_call_of 17 (#[.int .i64 (up : Int), .agg #[.int .u64 (xh : Int), .int .u64 (xl : Int)]] : Array Value); refine (S2.go _).mono ?_; rintro e w' ⟨rfl, hb'⟩; have B'' := Bl.below (w' := w') (by first | exact B | exact B.drew | exact B.room | exact B.drew.room | exact B.room.drew | exact B.alloc _ | exact B.drew.alloc _ | exact (B.alloc _).drew) hb'; clear F B hb'; have B := B''; clear B''; (try simp only [World.size_drew] at B); have F := B.facts; simp only [Els, Wrs, and_true] at F; have N := B.nes; simp only [Nes, List.map, and_true] at N; have N2 := B.b.size))
    all_goals
      go_wp2
      go_ret
      exact ⟨rfl, B.b⟩
end Go.Proofs.Ytogecppdeoinhaa
