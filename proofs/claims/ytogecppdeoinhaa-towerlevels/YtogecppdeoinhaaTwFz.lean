/- The walk of steeplelaw02.TowerField over the seat's translation: zero. -/
import Derived.Test.YtogecppdeoinhaaTwFd
namespace Go.Proofs.Ytogecppdeoinhaa
open Go.RowKit

set_option maxHeartbeats 8000000 in
set_option maxRecDepth 100000 in
theorem field_x0 (level : Int) (k ah al bh bl : Nat) (yh yl : Int)
    (HOF : Cut2i level k ah al bh bl 0 0 yh yl)
    (I1 : Ret 30 #[.int .i64 (k : Int), .agg #[.int .u64 0, .int .u64 0]] (.agg #[.int .u64 0, .int .u64 0]))
    (AW : Ret 10 #[] (.bool true))
    (M2 : Ret 15 #[.int .i64 (k : Int), .agg #[.int .u64 0, .int .u64 0], .agg #[.int .u64 (yh : Int), .int .u64 (yl : Int)]] (.agg #[.int .u64 0, .int .u64 0]))
    (W : World) :
    Calls Try.prog 7 #[.int .i64 level, .agg #[.int .u64 (ah : Int), .int .u64 (al : Int)], .agg #[.int .u64 (bh : Int), .int .u64 (bl : Int)]] W fun e w' => e = .returned (.bool true) ∧ Below W.heap.size W w' := by
  go_enter Try.func7, Try.ntmps7
  go_wp2_with fail
  refine Calls.mono (HOF _ _ _ ?b ?x1 ?y1 ?y2) ?_
  case b => simp
  case x1 => exact ⟨by simp [go_sem], by simp [go_sem]⟩
  case y1 => simp [go_sem]
  case y2 => simp [go_sem]
  rintro e w1 ⟨g, cap2, rfl, e1, e0, y1, y0, hb1⟩
  have HB : Hid (Below W.heap.size W w1) := ((((Below.refl _ _).alloc (Nat.le_refl _) _).alloc (by simp) _).alloc (by simp <;> omega) _).trans (hb1.mono (by simp <;> omega))
  have hg : g < w1.heap.size := cell_lt e1
  have hn0 : ¬ g = w1.heap.size := by omega
  have hn1 : ¬ g = w1.heap.size + 1 := by omega
  have hl1 : g < w1.heap.size + 1 := by omega
  clear HOF hb1
  go_upto_region 2 with fail
  go_cut [9, 10] (fun s7 s8 w => ∃ p9 p10, s7 = .pointer (some ⟨p9, 0, none⟩) ∧ s8 = .pointer (some ⟨p10, 0, none⟩) ∧ Bi W w [(p9, 0, 0), (p10, yh, yl)] [])
  case first =>
    go_region
    all_goals
      go_wp2_with fail
      go_meet
      exact ⟨_, _, rfl, rfl, ⟨⟨by simp [go_sem], by simp [go_sem]⟩, ⟨by simp [go_sem], by simp [go_sem]⟩, trivial⟩, trivial, HB.out.trans (by have := HB.out.size; go_grown)⟩
  case rest =>
    obtain ⟨p9, p10, rfl, rfl, B0⟩ := hcut
    clear e1 e0 y1 y0 HB hg hn0 hn1 hl1
    have F := B0.facts
    simp only [Eis, Wrs, and_true] at F
    obtain ⟨⟨f1, f2⟩, f3, f4⟩ := F
    have n1 := cell_lt f1
    have n2 := cell_lt f3
    go_wp2_with fail
    refine (I1.go _).mono ?_
    rintro e w2 ⟨rfl, hb2⟩
    have B := (B0.room.below hb2).laid 0 0
    clear f1 f2 f3 f4 n1 n2 B0 hb2
    go_upto_region 5 with fail
    generalize w2.alloc (Obj.cells #[.int .u64 0, .int .u64 0] 24) = w3 at *
    generalize w2.heap.size = p12 at *
    generalize wc.heap.size = p11 at *
    have F := B.facts
    simp only [Eis, Wrs, and_true] at F
    go_cut [33] (fun s w => s = .bool true ∧ w = w3)
    case first =>
      go_wp2_with fail
      all_goals
        go_meet
        exact ⟨rfl, rfl⟩
    case rest =>
      obtain ⟨rfl, rfl⟩ := hcut
      clear I1
      go_wp2_with fail
      go_region_held3 (fun w => w.cell? ⟨p12, 0, none⟩ = some (.int .u64 (0 : Int)) ∧ w.cell? ⟨p12, 1, none⟩ = some (.int .u64 (0 : Int)) ∧ w.cell? ⟨p9, 0, none⟩ = some (.int .u64 (0 : Int)) ∧ w.cell? ⟨p9, 1, none⟩ = some (.int .u64 (0 : Int)) ∧ w.cell? ⟨p10, 0, none⟩ = some (.int .u64 (yh : Int)) ∧ w.cell? ⟨p10, 1, none⟩ = some (.int .u64 (yl : Int)) ∧ w.cell? ⟨p11, 0, none⟩ = some (.int .u64 (0 : Int)) ∧ w.cell? ⟨p11, 1, none⟩ = some (.int .u64 (0 : Int))) (go_keep) (first | (go_at_call 10; refine (AW.go _).mono ?_; rintro e w' ⟨rfl, hb'⟩; have B'' := Bi.below (w' := w') (by first | exact B | exact B.drew | exact B.room | exact B.drew.room | exact B.room.drew | exact B.alloc _ | exact B.drew.alloc _ | exact (B.alloc _).drew) hb'; clear F B hb'; have B := B''; clear B''; (try simp only [World.size_drew] at B); have F := B.facts; simp only [Eis, Wrs, and_true] at F; have N := B.nes; simp only [Nes, List.map, and_true] at N; have N2 := B.b.size) | (go_at_call_of 15 (#[.int .i64 (k : Int), .agg #[.int .u64 0, .int .u64 0], .agg #[.int .u64 (yh : Int), .int .u64 (yl : Int)]] : Array Value); refine (M2.go _).mono ?_; rintro e w' ⟨rfl, hb'⟩; have B'' := Bi.below (w' := w') (by first | exact B | exact B.drew | exact B.room | exact B.drew.room | exact B.room.drew | exact B.alloc _ | exact B.drew.alloc _ | exact (B.alloc _).drew) hb'; clear F B hb'; have B := B''; clear B''; (try simp only [World.size_drew] at B); have F := B.facts; simp only [Eis, Wrs, and_true] at F; have N := B.nes; simp only [Nes, List.map, and_true] at N; have N2 := B.b.size))
      all_goals
        go_wp2
        go_ret
        exact ⟨rfl, B.b⟩

set_option maxHeartbeats 8000000 in
set_option maxRecDepth 100000 in
theorem field_zz (level : Int) (k ah al bh bl : Nat) (xh xl ih il  : Int) (hx : ¬ (xh = 0 ∧ xl = 0)) 
    (HOF : Cut2i level k ah al bh bl xh xl 0 0)
    (I1 : Ret 30 #[.int .i64 (k : Int), .agg #[.int .u64 (xh : Int), .int .u64 (xl : Int)]] (.agg #[.int .u64 (ih : Int), .int .u64 (il : Int)]))
    (AW : Ret 10 #[] (.bool true))
    (O1 : Ret 35 #[] (.agg #[.int .u64 0, .int .u64 1]))
    (M1 : Ret 15 #[.int .i64 (k : Int), .agg #[.int .u64 (xh : Int), .int .u64 (xl : Int)], .agg #[.int .u64 (ih : Int), .int .u64 (il : Int)]] (.agg #[.int .u64 0, .int .u64 1]))
    (I2 : Ret 30 #[.int .i64 (k : Int), .agg #[.int .u64 (ih : Int), .int .u64 (il : Int)]] (.agg #[.int .u64 (xh : Int), .int .u64 (xl : Int)]))
    (M2 : Ret 15 #[.int .i64 (k : Int), .agg #[.int .u64 (xh : Int), .int .u64 (xl : Int)], .agg #[.int .u64 0, .int .u64 0]] (.agg #[.int .u64 0, .int .u64 0]))
    (D1 : Ret 34 #[.int .i64 (k : Int), .agg #[.int .u64 0, .int .u64 0], .agg #[.int .u64 (xh : Int), .int .u64 (xl : Int)]] (.agg #[.int .u64 0, .int .u64 0]))
    (W : World) :
    Calls Try.prog 7 #[.int .i64 level, .agg #[.int .u64 (ah : Int), .int .u64 (al : Int)], .agg #[.int .u64 (bh : Int), .int .u64 (bl : Int)]] W fun e w' => e = .returned (.bool true) ∧ Below W.heap.size W w' := by
  go_enter Try.func7, Try.ntmps7
  go_wp2_with fail
  refine Calls.mono (HOF _ _ _ ?b ?x1 ?y1 ?y2) ?_
  case b => simp
  case x1 => exact ⟨by simp [go_sem], by simp [go_sem]⟩
  case y1 => simp [go_sem]
  case y2 => simp [go_sem]
  rintro e w1 ⟨g, cap2, rfl, e1, e0, y1, y0, hb1⟩
  have HB : Hid (Below W.heap.size W w1) := ((((Below.refl _ _).alloc (Nat.le_refl _) _).alloc (by simp) _).alloc (by simp <;> omega) _).trans (hb1.mono (by simp <;> omega))
  have hg : g < w1.heap.size := cell_lt e1
  have hn0 : ¬ g = w1.heap.size := by omega
  have hn1 : ¬ g = w1.heap.size + 1 := by omega
  have hl1 : g < w1.heap.size + 1 := by omega
  clear HOF hb1
  go_upto_region 2 with fail
  go_cut [9, 10] (fun s7 s8 w => ∃ p9 p10, s7 = .pointer (some ⟨p9, 0, none⟩) ∧ s8 = .pointer (some ⟨p10, 0, none⟩) ∧ Bi W w [(p9, xh, xl), (p10, 0, 0)] [])
  case first =>
    go_region
    all_goals
      go_wp2_with fail
      go_meet
      exact ⟨_, _, rfl, rfl, ⟨⟨by simp [go_sem], by simp [go_sem]⟩, ⟨by simp [go_sem], by simp [go_sem]⟩, trivial⟩, trivial, HB.out.trans (by have := HB.out.size; go_grown)⟩
  case rest =>
    obtain ⟨p9, p10, rfl, rfl, B0⟩ := hcut
    clear e1 e0 y1 y0 HB hg hn0 hn1 hl1
    have F := B0.facts
    simp only [Eis, Wrs, and_true] at F
    obtain ⟨⟨f1, f2⟩, f3, f4⟩ := F
    have n1 := cell_lt f1
    have n2 := cell_lt f3
    go_wp2_with fail
    refine (I1.go _).mono ?_
    rintro e w2 ⟨rfl, hb2⟩
    have B := (B0.room.below hb2).laid ih il
    clear f1 f2 f3 f4 n1 n2 B0 hb2
    go_upto_region 5 with fail
    generalize w2.alloc (Obj.cells #[.int .u64 ih, .int .u64 il] 24) = w3 at *
    generalize w2.heap.size = p12 at *
    generalize wc.heap.size = p11 at *
    have F := B.facts
    simp only [Eis, Wrs, and_true] at F
    go_cut [33] (fun s w => s = .bool false ∧ w = w3)
    case first =>
      go_wp2_with fail
      all_goals
        go_meet
        exact ⟨rfl, rfl⟩
    case rest =>
      obtain ⟨rfl, rfl⟩ := hcut
      clear hx I1
      go_wp2_with fail
      go_region_held3 (fun w => w.cell? ⟨p12, 0, none⟩ = some (.int .u64 (ih : Int)) ∧ w.cell? ⟨p12, 1, none⟩ = some (.int .u64 (il : Int)) ∧ w.cell? ⟨p9, 0, none⟩ = some (.int .u64 (xh : Int)) ∧ w.cell? ⟨p9, 1, none⟩ = some (.int .u64 (xl : Int)) ∧ w.cell? ⟨p10, 0, none⟩ = some (.int .u64 (0 : Int)) ∧ w.cell? ⟨p10, 1, none⟩ = some (.int .u64 (0 : Int)) ∧ w.cell? ⟨p11, 0, none⟩ = some (.int .u64 (0 : Int)) ∧ w.cell? ⟨p11, 1, none⟩ = some (.int .u64 (0 : Int))) (go_keep) (first | (go_at_call 10; refine (AW.go _).mono ?_; rintro e w' ⟨rfl, hb'⟩; have B'' := Bi.below (w' := w') (by first | exact B | exact B.drew | exact B.room | exact B.drew.room | exact B.room.drew | exact B.alloc _ | exact B.drew.alloc _ | exact (B.alloc _).drew) hb'; clear F B hb'; have B := B''; clear B''; (try simp only [World.size_drew] at B); have F := B.facts; simp only [Eis, Wrs, and_true] at F; have N := B.nes; simp only [Nes, List.map, and_true] at N; have N2 := B.b.size) | (go_at_call 35; refine (O1.go _).mono ?_; rintro e w' ⟨rfl, hb'⟩; have B'' := Bi.below (w' := w') (by first | exact B | exact B.drew | exact B.room | exact B.drew.room | exact B.room.drew | exact B.alloc _ | exact B.drew.alloc _ | exact (B.alloc _).drew) hb'; clear F B hb'; have B := B''; clear B''; (try simp only [World.size_drew] at B); have F := B.facts; simp only [Eis, Wrs, and_true] at F; have N := B.nes; simp only [Nes, List.map, and_true] at N; have N2 := B.b.size) | (go_at_call_of 15 (#[.int .i64 (k : Int), .agg #[.int .u64 (xh : Int), .int .u64 (xl : Int)], .agg #[.int .u64 (ih : Int), .int .u64 (il : Int)]] : Array Value); refine (M1.go _).mono ?_; rintro e w' ⟨rfl, hb'⟩; have B'' := Bi.below (w' := w') (by first | exact B | exact B.drew | exact B.room | exact B.drew.room | exact B.room.drew | exact B.alloc _ | exact B.drew.alloc _ | exact (B.alloc _).drew) hb'; clear F B hb'; have B := B''; clear B''; (try simp only [World.size_drew] at B); have F := B.facts; simp only [Eis, Wrs, and_true] at F; have N := B.nes; simp only [Nes, List.map, and_true] at N; have N2 := B.b.size) | (go_at_call_of 15 (#[.int .i64 (k : Int), .agg #[.int .u64 (xh : Int), .int .u64 (xl : Int)], .agg #[.int .u64 0, .int .u64 0]] : Array Value); refine (M2.go _).mono ?_; rintro e w' ⟨rfl, hb'⟩; have B'' := Bi.below (w' := w') (by first | exact B | exact B.drew | exact B.room | exact B.drew.room | exact B.room.drew | exact B.alloc _ | exact B.drew.alloc _ | exact (B.alloc _).drew) hb'; clear F B hb'; have B := B''; clear B''; (try simp only [World.size_drew] at B); have F := B.facts; simp only [Eis, Wrs, and_true] at F; have N := B.nes; simp only [Nes, List.map, and_true] at N; have N2 := B.b.size) | (go_at_call 30; refine (I2.go _).mono ?_; rintro e w' ⟨rfl, hb'⟩; have B'' := Bi.below (w' := w') (by first | exact B | exact B.drew | exact B.room | exact B.drew.room | exact B.room.drew | exact B.alloc _ | exact B.drew.alloc _ | exact (B.alloc _).drew) hb'; clear F B hb'; have B := B''; clear B''; (try simp only [World.size_drew] at B); have F := B.facts; simp only [Eis, Wrs, and_true] at F; have N := B.nes; simp only [Nes, List.map, and_true] at N; have N2 := B.b.size) | (go_at_call 34; refine (D1.go _).mono ?_; rintro e w' ⟨rfl, hb'⟩; have B'' := Bi.below (w' := w') (by first | exact B | exact B.drew | exact B.room | exact B.drew.room | exact B.room.drew | exact B.alloc _ | exact B.drew.alloc _ | exact (B.alloc _).drew) hb'; clear F B hb'; have B := B''; clear B''; (try simp only [World.size_drew] at B); have F := B.facts; simp only [Eis, Wrs, and_true] at F; have N := B.nes; simp only [Nes, List.map, and_true] at N; have N2 := B.b.size))
      all_goals
        go_wp2
        go_ret
        exact ⟨rfl, B.b⟩

end Go.Proofs.Ytogecppdeoinhaa
