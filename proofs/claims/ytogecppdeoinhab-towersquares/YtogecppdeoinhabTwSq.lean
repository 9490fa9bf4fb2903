/- The walk of steeplelaw02.TowerSquares over the seat's translation. -/
import Derived.Test.YtogecppdeoinhabTwC2
namespace Go.Proofs.Ytogecppdeoinhab
open Go.RowKit

theorem El.other {w : World} {b c h l : Nat} (e : El w c h l) (hn : b ≠ c) (u v : Value) : El ((w.setCell ⟨b, 0, none⟩ u).setCell ⟨b, 1, none⟩ v) c h l := by
  obtain ⟨e1, e0⟩ := e
  have hn' : c ≠ b := fun h => hn h.symm
  exact ⟨by simp [go_sem, *], by simp [go_sem, *]⟩

set_option maxHeartbeats 8000000 in
set_option maxRecDepth 100000 in
theorem squares_core (level k : Int) (n : Nat) (ah al bh bl xh xl yh yl th tl sh sl qh ql rh rl : Nat) (q : Nat → Nat × Nat) (hk : (k = 0 ∧ n = 1) ∨ (k = 1 ∧ n = 2) ∨ (k = 2 ∧ n = 4) ∨ (k = 3 ∧ n = 8) ∨ (k = 4 ∧ n = 16) ∨ (k = 5 ∧ n = 32) ∨ (k = 6 ∧ n = 64) ∨ (k = 7 ∧ n = 128)) (q0 : q 0 = (xh, xl)) (qn : q n = (xh, xl))
    (HOF : Cut2 level k ah al bh bl xh xl yh yl)
    (A1 : Ret 8 #[.agg #[.int .u64 (xh : Int), .int .u64 (xl : Int)], .agg #[.int .u64 (yh : Int), .int .u64 (yl : Int)]] (.agg #[.int .u64 (th : Int), .int .u64 (tl : Int)]))
    (S1 : Ret 7 #[.int .i64 (k : Int), .agg #[.int .u64 (th : Int), .int .u64 (tl : Int)]] (.agg #[.int .u64 (sh : Int), .int .u64 (sl : Int)]))
    (S2 : Ret 7 #[.int .i64 (k : Int), .agg #[.int .u64 (xh : Int), .int .u64 (xl : Int)]] (.agg #[.int .u64 (qh : Int), .int .u64 (ql : Int)]))
    (S3 : Ret 7 #[.int .i64 (k : Int), .agg #[.int .u64 (yh : Int), .int .u64 (yl : Int)]] (.agg #[.int .u64 (rh : Int), .int .u64 (rl : Int)]))
    (A2 : Ret 8 #[.agg #[.int .u64 (qh : Int), .int .u64 (ql : Int)], .agg #[.int .u64 (rh : Int), .int .u64 (rl : Int)]] (.agg #[.int .u64 (sh : Int), .int .u64 (sl : Int)]))
    (M1 : Ret 9 #[.int .i64 (k : Int), .agg #[.int .u64 (xh : Int), .int .u64 (xl : Int)], .agg #[.int .u64 (xh : Int), .int .u64 (xl : Int)]] (.agg #[.int .u64 (qh : Int), .int .u64 (ql : Int)]))
    (SQ : Hid (∀ i, Ret 7 #[.int .i64 (k : Int), .agg #[.int .u64 ((q i).1 : Int), .int .u64 ((q i).2 : Int)]] (.agg #[.int .u64 ((q (i + 1)).1 : Int), .int .u64 ((q (i + 1)).2 : Int)])))
    (AW : Ret 10 #[] (.bool true))
    (W : World) :
    Calls Try.prog 3 #[.int .i64 level, .agg #[.int .u64 (ah : Int), .int .u64 (al : Int)], .agg #[.int .u64 (bh : Int), .int .u64 (bl : Int)]] W fun e w' => e = .returned (.bool true) ∧ Below W.heap.size W w' := by
  go_enter Try.func3, Try.ntmps3
  go_wp2_with fail
  refine Calls.mono (HOF _ _ _ ?b ?x1 ?y1 ?y2) ?_
  case b => simp
  case x1 => exact ⟨by simp [go_sem], by simp [go_sem]⟩
  case y1 => simp [go_sem]
  case y2 => simp [go_sem]
  rintro e w1 ⟨g, cap2, rfl, ⟨e1, e0⟩, y1, y0, hb1⟩
  have HB : Hid (Below W.heap.size W w1) := ((((Below.refl _ _).alloc (Nat.le_refl _) _).alloc (by simp) _).alloc (by simp <;> omega) _).trans (hb1.mono (by simp <;> omega))
  have hg : g < w1.heap.size := (El.mk e1 e0).lt
  have hn0 : ¬ g = w1.heap.size := by omega
  have hn1 : ¬ g = w1.heap.size + 1 := by omega
  have hl1 : g < w1.heap.size + 1 := by omega
  have Q0 : Hid (q 0 = (xh, xl)) := q0
  have QN : Hid (q n = (xh, xl)) := qn
  have HK : Hid ((k = 0 ∧ n = 1) ∨ (k = 1 ∧ n = 2) ∨ (k = 2 ∧ n = 4) ∨ (k = 3 ∧ n = 8) ∨ (k = 4 ∧ n = 16) ∨ (k = 5 ∧ n = 32) ∨ (k = 6 ∧ n = 64) ∨ (k = 7 ∧ n = 128)) := hk
  clear HOF hb1 q0 qn hk
  go_upto_region 2 with fail
  go_cut [9, 10] (fun s7 s8 w => ∃ p9 p10, s7 = .pointer (some ⟨p9, 0, none⟩) ∧ s8 = .pointer (some ⟨p10, 0, none⟩) ∧ Bl W w [(p9, xh, xl), (p10, yh, yl)] [])
  case first =>
    go_region
    all_goals
      go_wp2_with fail
      go_meet
      exact ⟨_, _, rfl, rfl, ⟨⟨by simp [go_sem], by simp [go_sem]⟩, ⟨by simp [go_sem], by simp [go_sem]⟩, trivial⟩, trivial, HB.out.trans (by have := HB.out.size; go_grown)⟩
  case rest =>
    obtain ⟨p9, p10, rfl, rfl, B⟩ := hcut
    clear e1 e0 y1 y0 HB hg hn0 hn1 hl1
    have F := B.facts
    simp only [Els, Wrs, and_true] at F
    go_upto_region 3 with fail
    go_cut [49] (fun s w => s = .bool false ∧ Bl W w [(p9, xh, xl), (p10, yh, yl)] [])
    case first =>
      clear SQ AW Q0 QN
      go_region_held3 (fun w => w.cell? ⟨p9, 0, none⟩ = some (.int .u64 (xh : Int)) ∧ w.cell? ⟨p9, 1, none⟩ = some (.int .u64 (xl : Int)) ∧ w.cell? ⟨p10, 0, none⟩ = some (.int .u64 (yh : Int)) ∧ w.cell? ⟨p10, 1, none⟩ = some (.int .u64 (yl : Int))) (go_keep) (first | (go_at_call_of 8 (#[.agg #[.int .u64 (xh : Int), .int .u64 (xl : Int)], .agg #[.int .u64 (yh : Int), .int .u64 (yl : Int)]] : Array Value); refine (A1.go _).mono ?_; rintro e w' ⟨rfl, hb'⟩; have B'' := Bl.below (w' := w') (by first | exact B | exact B.drew | exact B.room | exact B.drew.room | exact B.room.drew | exact B.alloc _ | exact B.drew.alloc _ | exact (B.alloc _).drew) hb'; clear F B hb'; have B := B''; clear B''; (try simp only [World.size_drew] at B); have F := B.facts; simp only [Els, Wrs, and_true] at F; have N := B.nes; simp only [Nes, List.map, and_true] at N; have N2 := B.b.size) | (go_at_call_of 8 (#[.agg #[.int .u64 (qh : Int), .int .u64 (ql : Int)], .agg #[.int .u64 (rh : Int), .int .u64 (rl : Int)]] : Array Value); refine (A2.go _).mono ?_; rintro e w' ⟨rfl, hb'⟩; have B'' := Bl.below (w' := w') (by first | exact B | exact B.drew | exact B.room | exact B.drew.room | exact B.room.drew | exact B.alloc _ | exact B.drew.alloc _ | exact (B.alloc _).drew) hb'; clear F B hb'; have B := B''; clear B''; (try simp only [World.size_drew] at B); have F := B.facts; simp only [Els, Wrs, and_true] at F; have N := B.nes; simp only [Nes, List.map, and_true] at N; have N2 := B.b.size) | (go_at_call_of 7 (#[.int .i64 (k : Int), .agg #[.int .u64 (th : Int), .int .u64 (tl : Int)]] : Array Value); refine (S1.go _).mono ?_; rintro e w' ⟨rfl, hb'⟩; have B'' := Bl.below (w' := w') (by first | exact B | exact B.drew | exact B.room | exact B.drew.room | exact B.room.drew | exact B.alloc _ | exact B.drew.alloc _ | exact (B.alloc _).drew) hb'; clear F B hb'; have B := B''; clear B''; (try simp only [World.size_drew] at B); have F := B.facts; simp only [Els, Wrs, and_true] at F; have N := B.nes; simp only [Nes, List.map, and_true] at N; have N2 := B.b.size) | (go_at_call_of 7 (#[.int .i64 (k : Int), .agg #[.int .u64 (xh : Int), .int .u64 (xl : Int)]] : Array Value); refine (S2.go _).mono ?_; rintro e w' ⟨rfl, hb'⟩; have B'' := Bl.below (w' := w') (by first | exact B | exact B.drew | exact B.room | exact B.drew.room | exact B.room.drew | exact B.alloc _ | exact B.drew.alloc _ | exact (B.alloc _).drew) hb'; clear F B hb'; have B := B''; clear B''; (try simp only [World.size_drew] at B); have F := B.facts; simp only [Els, Wrs, and_true] at F; have N := B.nes; simp only [Nes, List.map, and_true] at N; have N2 := B.b.size) | (go_at_call_of 7 (#[.int .i64 (k : Int), .agg #[.int .u64 (yh : Int), .int .u64 (yl : Int)]] : Array Value); refine (S3.go _).mono ?_; rintro e w' ⟨rfl, hb'⟩; have B'' := Bl.below (w' := w') (by first | exact B | exact B.drew | exact B.room | exact B.drew.room | exact B.room.drew | exact B.alloc _ | exact B.drew.alloc _ | exact (B.alloc _).drew) hb'; clear F B hb'; have B := B''; clear B''; (try simp only [World.size_drew] at B); have F := B.facts; simp only [Els, Wrs, and_true] at F; have N := B.nes; simp only [Nes, List.map, and_true] at N; have N2 := B.b.size) | (go_at_call 9; refine (M1.go _).mono ?_; rintro e w' ⟨rfl, hb'⟩; have B'' := Bl.below (w' := w') (by first | exact B | exact B.drew | exact B.room | exact B.drew.room | exact B.room.drew | exact B.alloc _ | exact B.drew.alloc _ | exact (B.alloc _).drew) hb'; clear F B hb'; have B := B''; clear B''; (try simp only [World.size_drew] at B); have F := B.facts; simp only [Els, Wrs, and_true] at F; have N := B.nes; simp only [Nes, List.map, and_true] at N; have N2 := B.b.size))
      all_goals
        go_wp2_with fail
        go_meet
        exact ⟨rfl, B⟩
    case rest =>
      obtain ⟨rfl, B2⟩ := hcut
      clear F A1 S1 S2 S3 A2 M1
      have F := B2.facts
      simp only [Els, Wrs, and_true] at F
      obtain ⟨⟨f1, f2⟩, f3, f4⟩ := F
      have hlt := cell_lt f1
      have hle := B2.b.size
      have hk' := HK.out
      go_wp2_with fail
      have E0 : Ew (wc.alloc (Obj.cells #[.int .u64 (xh : Int), .int .u64 (xl : Int)] 24)) wc.heap.size (q 0).1 (q 0).2 := by
        rw [Q0.out]; exact ⟨⟨by simp [go_sem], by simp [go_sem]⟩, by simp [go_sem], by simp [go_sem]⟩
      have E1 : El (wc.alloc (Obj.cells #[.int .u64 (xh : Int), .int .u64 (xl : Int)] 24)) p9 xh xl := El.alloc ⟨f1, f2⟩ _
      have E2 : Below W.heap.size W (wc.alloc (Obj.cells #[.int .u64 (xh : Int), .int .u64 (xl : Int)] 24)) := (B2.alloc _).b
      clear f1 f2 f3 f4 B2 B HK
      rcases hk' with ⟨rfl, rfl⟩ | ⟨rfl, rfl⟩ | ⟨rfl, rfl⟩ | ⟨rfl, rfl⟩ | ⟨rfl, rfl⟩ | ⟨rfl, rfl⟩ | ⟨rfl, rfl⟩ | ⟨rfl, rfl⟩
      · go_loopw [12] (fun u wr => ∃ j : Nat, j ≤ 1 ∧ u = .int .i64 j ∧ Ew wr wc.heap.size (q j).1 (q j).2 ∧ El wr p9 xh xl ∧ Below W.heap.size W wr) (fun u _ => 1 - (intOf u).toNat)
        case atStart => exact ⟨0, Nat.zero_le _, rfl, E0, E1, E2⟩
        case round =>
          obtain ⟨j, hj, rfl, hs, hx, hbw⟩ := hrel
          by_cases hjl : j < 1
          · have HS : Hid (Ew wr wc.heap.size (q j).1 (q j).2) := hs
            have HX : Hid (El wr p9 xh xl) := hx
            have HB : Hid (Below W.heap.size W wr) := hbw
            have s1 := hs.hi
            have s0 := hs.lo
            have hz := hs.toEl.lt
            clear hs hx hbw
            go_wp2_with fail
            refine ((SQ.out j).go _).mono ?_
            rintro e w2 ⟨rfl, hb2⟩
            have HS2 : Hid (Ew w2 wc.heap.size (q j).1 (q j).2) := (HS.out.alloc _).below hb2
            have HX2 : Hid (El w2 p9 xh xl) := (HX.out.alloc _).below hb2
            have HB2 : Hid (Below W.heap.size W w2) := (HB.out.alloc HB.out.size _).trans (hb2.mono (by have := HB.out.size; simp; omega))
            have g1 := HS2.out.hi
            have g0 := HS2.out.lo
            have t1 := HS2.out.fhi
            have t0 := HS2.out.flo
            clear hb2 HS HX HB s1 s0
            go_wp2
            go_roundw
            case rel => exact ⟨j + 1, hjl, by go_num, HS2.out.set _ _, HX2.out.other (by omega) _ _, (HB2.out.setCell hle _).setCell hle _⟩
            case measure => simp [intOf]; omega
          · obtain rfl : j = 1 := by omega
            rw [show q 1 = (xh, xl) from QN.out] at hs
            have HS : Hid (Ew wr wc.heap.size xh xl) := hs
            have HX : Hid (El wr p9 xh xl) := hx
            have HB : Hid (Below W.heap.size W wr) := hbw
            clear hs hx hbw
            go_wp2_with fail
            refine (AW.go _).mono ?_
            rintro e w2 ⟨rfl, hb2⟩
            have HS2 := (HS.out.alloc _).below hb2
            have HX2 := (HX.out.alloc _).below hb2
            have HB2 : Hid (Below W.heap.size W w2) := (HB.out.alloc HB.out.size _).trans (hb2.mono (by have := HB.out.size; simp; omega))
            obtain ⟨⟨g1, g0⟩, _, _⟩ := HS2
            obtain ⟨x1, x0⟩ := HX2
            clear hb2 HS HX HB
            go_wp2
            go_ret
            exact ⟨rfl, HB2.out⟩
      · go_loopw [12] (fun u wr => ∃ j : Nat, j ≤ 2 ∧ u = .int .i64 j ∧ Ew wr wc.heap.size (q j).1 (q j).2 ∧ El wr p9 xh xl ∧ Below W.heap.size W wr) (fun u _ => 2 - (intOf u).toNat)
        case atStart => exact ⟨0, Nat.zero_le _, rfl, E0, E1, E2⟩
        case round =>
          obtain ⟨j, hj, rfl, hs, hx, hbw⟩ := hrel
          by_cases hjl : j < 2
          · have HS : Hid (Ew wr wc.heap.size (q j).1 (q j).2) := hs
            have HX : Hid (El wr p9 xh xl) := hx
            have HB : Hid (Below W.heap.size W wr) := hbw
            have s1 := hs.hi
            have s0 := hs.lo
            have hz := hs.toEl.lt
            clear hs hx hbw
            go_wp2_with fail
            refine ((SQ.out j).go _).mono ?_
            rintro e w2 ⟨rfl, hb2⟩
            have HS2 : Hid (Ew w2 wc.heap.size (q j).1 (q j).2) := (HS.out.alloc _).below hb2
            have HX2 : Hid (El w2 p9 xh xl) := (HX.out.alloc _).below hb2
            have HB2 : Hid (Below W.heap.size W w2) := (HB.out.alloc HB.out.size _).trans (hb2.mono (by have := HB.out.size; simp; omega))
            have g1 := HS2.out.hi
            have g0 := HS2.out.lo
            have t1 := HS2.out.fhi
            have t0 := HS2.out.flo
            clear hb2 HS HX HB s1 s0
            go_wp2
            go_roundw
            case rel => exact ⟨j + 1, hjl, by go_num, HS2.out.set _ _, HX2.out.other (by omega) _ _, (HB2.out.setCell hle _).setCell hle _⟩
            case measure => simp [intOf]; omega
          · obtain rfl : j = 2 := by omega
            rw [show q 2 = (xh, xl) from QN.out] at hs
            have HS : Hid (Ew wr wc.heap.size xh xl) := hs
            have HX : Hid (El wr p9 xh xl) := hx
            have HB : Hid (Below W.heap.size W wr) := hbw
            clear hs hx hbw
            go_wp2_with fail
            refine (AW.go _).mono ?_
            rintro e w2 ⟨rfl, hb2⟩
            have HS2 := (HS.out.alloc _).below hb2
            have HX2 := (HX.out.alloc _).below hb2
            have HB2 : Hid (Below W.heap.size W w2) := (HB.out.alloc HB.out.size _).trans (hb2.mono (by have := HB.out.size; simp; omega))
            obtain ⟨⟨g1, g0⟩, _, _⟩ := HS2
            obtain ⟨x1, x0⟩ := HX2
            clear hb2 HS HX HB
            go_wp2
            go_ret
            exact ⟨rfl, HB2.out⟩
      · go_loopw [12] (fun u wr => ∃ j : Nat, j ≤ 4 ∧ u = .int .i64 j ∧ Ew wr wc.heap.size (q j).1 (q j).2 ∧ El wr p9 xh xl ∧ Below W.heap.size W wr) (fun u _ => 4 - (intOf u).toNat)
        case atStart => exact ⟨0, Nat.zero_le _, rfl, E0, E1, E2⟩
        case round =>
          obtain ⟨j, hj, rfl, hs, hx, hbw⟩ := hrel
          by_cases hjl : j < 4
          · have HS : Hid (Ew wr wc.heap.size (q j).1 (q j).2) := hs
            have HX : Hid (El wr p9 xh xl) := hx
            have HB : Hid (Below W.heap.size W wr) := hbw
            have s1 := hs.hi
            have s0 := hs.lo
            have hz := hs.toEl.lt
            clear hs hx hbw
            go_wp2_with fail
            refine ((SQ.out j).go _).mono ?_
            rintro e w2 ⟨rfl, hb2⟩
            have HS2 : Hid (Ew w2 wc.heap.size (q j).1 (q j).2) := (HS.out.alloc _).below hb2
            have HX2 : Hid (El w2 p9 xh xl) := (HX.out.alloc _).below hb2
            have HB2 : Hid (Below W.heap.size W w2) := (HB.out.alloc HB.out.size _).trans (hb2.mono (by have := HB.out.size; simp; omega))
            have g1 := HS2.out.hi
            have g0 := HS2.out.lo
            have t1 := HS2.out.fhi
            have t0 := HS2.out.flo
            clear hb2 HS HX HB s1 s0
            go_wp2
            go_roundw
            case rel => exact ⟨j + 1, hjl, by go_num, HS2.out.set _ _, HX2.out.other (by omega) _ _, (HB2.out.setCell hle _).setCell hle _⟩
            case measure => simp [intOf]; omega
          · obtain rfl : j = 4 := by omega
            rw [show q 4 = (xh, xl) from QN.out] at hs
            have HS : Hid (Ew wr wc.heap.size xh xl) := hs
            have HX : Hid (El wr p9 xh xl) := hx
            have HB : Hid (Below W.heap.size W wr) := hbw
            clear hs hx hbw
            go_wp2_with fail
            refine (AW.go _).mono ?_
            rintro e w2 ⟨rfl, hb2⟩
            have HS2 := (HS.out.alloc _).below hb2
            have HX2 := (HX.out.alloc _).below hb2
            have HB2 : Hid (Below W.heap.size W w2) := (HB.out.alloc HB.out.size _).trans (hb2.mono (by have := HB.out.size; simp; omega))
            obtain ⟨⟨g1, g0⟩, _, _⟩ := HS2
            obtain ⟨x1, x0⟩ := HX2
            clear hb2 HS HX HB
            go_wp2
            go_ret
            exact ⟨rfl, HB2.out⟩
      · go_loopw [12] (fun u wr => ∃ j : Nat, j ≤ 8 ∧ u = .int .i64 j ∧ Ew wr wc.heap.size (q j).1 (q j).2 ∧ El wr p9 xh xl ∧ Below W.heap.size W wr) (fun u _ => 8 - (intOf u).toNat)
        case atStart => exact ⟨0, Nat.zero_le _, rfl, E0, E1, E2⟩
        case round =>
          obtain ⟨j, hj, rfl, hs, hx, hbw⟩ := hrel
          by_cases hjl : j < 8
          · have HS : Hid (Ew wr wc.heap.size (q j).1 (q j).2) := hs
            have HX : Hid (El wr p9 xh xl) := hx
            have HB : Hid (Below W.heap.size W wr) := hbw
            have s1 := hs.hi
            have s0 := hs.lo
            have hz := hs.toEl.lt
            clear hs hx hbw
            go_wp2_with fail
            refine ((SQ.out j).go _).mono ?_
            rintro e w2 ⟨rfl, hb2⟩
            have HS2 : Hid (Ew w2 wc.heap.size (q j).1 (q j).2) := (HS.out.alloc _).below hb2
            have HX2 : Hid (El w2 p9 xh xl) := (HX.out.alloc _).below hb2
            have HB2 : Hid (Below W.heap.size W w2) := (HB.out.alloc HB.out.size _).trans (hb2.mono (by have := HB.out.size; simp; omega))
            have g1 := HS2.out.hi
            have g0 := HS2.out.lo
            have t1 := HS2.out.fhi
            have t0 := HS2.out.flo
            clear hb2 HS HX HB s1 s0
            go_wp2
            go_roundw
            case rel => exact ⟨j + 1, hjl, by go_num, HS2.out.set _ _, HX2.out.other (by omega) _ _, (HB2.out.setCell hle _).setCell hle _⟩
            case measure => simp [intOf]; omega
          · obtain rfl : j = 8 := by omega
            rw [show q 8 = (xh, xl) from QN.out] at hs
            have HS : Hid (Ew wr wc.heap.size xh xl) := hs
            have HX : Hid (El wr p9 xh xl) := hx
            have HB : Hid (Below W.heap.size W wr) := hbw
            clear hs hx hbw
            go_wp2_with fail
            refine (AW.go _).mono ?_
            rintro e w2 ⟨rfl, hb2⟩
            have HS2 := (HS.out.alloc _).below hb2
            have HX2 := (HX.out.alloc _).below hb2
            have HB2 : Hid (Below W.heap.size W w2) := (HB.out.alloc HB.out.size _).trans (hb2.mono (by have := HB.out.size; simp; omega))
            obtain ⟨⟨g1, g0⟩, _, _⟩ := HS2
            obtain ⟨x1, x0⟩ := HX2
            clear hb2 HS HX HB
            go_wp2
            go_ret
            exact ⟨rfl, HB2.out⟩
      · go_loopw [12] (fun u wr => ∃ j : Nat, j ≤ 16 ∧ u = .int .i64 j ∧ Ew wr wc.heap.size (q j).1 (q j).2 ∧ El wr p9 xh xl ∧ Below W.heap.size W wr) (fun u _ => 16 - (intOf u).toNat)
        case atStart => exact ⟨0, Nat.zero_le _, rfl, E0, E1, E2⟩
        case round =>
          obtain ⟨j, hj, rfl, hs, hx, hbw⟩ := hrel
          by_cases hjl : j < 16
          · have HS : Hid (Ew wr wc.heap.size (q j).1 (q j).2) := hs
            have HX : Hid (El wr p9 xh xl) := hx
            have HB : Hid (Below W.heap.size W wr) := hbw
            have s1 := hs.hi
            have s0 := hs.lo
            have hz := hs.toEl.lt
            clear hs hx hbw
            go_wp2_with fail
            refine ((SQ.out j).go _).mono ?_
            rintro e w2 ⟨rfl, hb2⟩
            have HS2 : Hid (Ew w2 wc.heap.size (q j).1 (q j).2) := (HS.out.alloc _).below hb2
            have HX2 : Hid (El w2 p9 xh xl) := (HX.out.alloc _).below hb2
            have HB2 : Hid (Below W.heap.size W w2) := (HB.out.alloc HB.out.size _).trans (hb2.mono (by have := HB.out.size; simp; omega))
            have g1 := HS2.out.hi
            have g0 := HS2.out.lo
            have t1 := HS2.out.fhi
            have t0 := HS2.out.flo
            clear hb2 HS HX HB s1 s0
            go_wp2
            go_roundw
            case rel => exact ⟨j + 1, hjl, by go_num, HS2.out.set _ _, HX2.out.other (by omega) _ _, (HB2.out.setCell hle _).setCell hle _⟩
            case measure => simp [intOf]; omega
          · obtain rfl : j = 16 := by omega
            rw [show q 16 = (xh, xl) from QN.out] at hs
            have HS : Hid (Ew wr wc.heap.size xh xl) := hs
            have HX : Hid (El wr p9 xh xl) := hx
            have HB : Hid (Below W.heap.size W wr) := hbw
            clear hs hx hbw
            go_wp2_with fail
            refine (AW.go _).mono ?_
            rintro e w2 ⟨rfl, hb2⟩
            have HS2 := (HS.out.alloc _).below hb2
            have HX2 := (HX.out.alloc _).below hb2
            have HB2 : Hid (Below W.heap.size W w2) := (HB.out.alloc HB.out.size _).trans (hb2.mono (by have := HB.out.size; simp; omega))
            obtain ⟨⟨g1, g0⟩, _, _⟩ := HS2
            obtain ⟨x1, x0⟩ := HX2
            clear hb2 HS HX HB
            go_wp2
            go_ret
            exact ⟨rfl, HB2.out⟩
      · go_loopw [12] (fun u wr => ∃ j : Nat, j ≤ 32 ∧ u = .int .i64 j ∧ Ew wr wc.heap.size (q j).1 (q j).2 ∧ El wr p9 xh xl ∧ Below W.heap.size W wr) (fun u _ => 32 - (intOf u).toNat)
        case atStart => exact ⟨0, Nat.zero_le _, rfl, E0, E1, E2⟩
        case round =>
          obtain ⟨j, hj, rfl, hs, hx, hbw⟩ := hrel
          by_cases hjl : j < 32
          · have HS : Hid (Ew wr wc.heap.size (q j).1 (q j).2) := hs
            have HX : Hid (El wr p9 xh xl) := hx
            have HB : Hid (Below W.heap.size W wr) := hbw
            have s1 := hs.hi
            have s0 := hs.lo
            have hz := hs.toEl.lt
            clear hs hx hbw
            go_wp2_with fail
            refine ((SQ.out j).go _).mono ?_
            rintro e w2 ⟨rfl, hb2⟩
            have HS2 : Hid (Ew w2 wc.heap.size (q j).1 (q j).2) := (HS.out.alloc _).below hb2
            have HX2 : Hid (El w2 p9 xh xl) := (HX.out.alloc _).below hb2
            have HB2 : Hid (Below W.heap.size W w2) := (HB.out.alloc HB.out.size _).trans (hb2.mono (by have := HB.out.size; simp; omega))
            have g1 := HS2.out.hi
            have g0 := HS2.out.lo
            have t1 := HS2.out.fhi
            have t0 := HS2.out.flo
            clear hb2 HS HX HB s1 s0
            go_wp2
            go_roundw
            case rel => exact ⟨j + 1, hjl, by go_num, HS2.out.set _ _, HX2.out.other (by omega) _ _, (HB2.out.setCell hle _).setCell hle _⟩
            case measure => simp [intOf]; omega
          · obtain rfl : j = 32 := by omega
            rw [show q 32 = (xh, xl) from QN.out] at hs
            have HS : Hid (Ew wr wc.heap.size xh xl) := hs
            have HX : Hid (El wr p9 xh xl) := hx
            have HB : Hid (Below W.heap.size W wr) := hbw
            clear hs hx hbw
            go_wp2_with fail
            refine (AW.go _).mono ?_
            rintro e w2 ⟨rfl, hb2⟩
            have HS2 := (HS.out.alloc _).below hb2
            have HX2 := (HX.out.alloc _).below hb2
            have HB2 : Hid (Below W.heap.size W w2) := (HB.out.alloc HB.out.size _).trans (hb2.mono (by have := HB.out.size; simp; omega))
            obtain ⟨⟨g1, g0⟩, _, _⟩ := HS2
            obtain ⟨x1, x0⟩ := HX2
            clear hb2 HS HX HB
            go_wp2
            go_ret
            exact ⟨rfl, HB2.out⟩
      · go_loopw [12] (fun u wr => ∃ j : Nat, j ≤ 64 ∧ u = .int .i64 j ∧ Ew wr wc.heap.size (q j).1 (q j).2 ∧ El wr p9 xh xl ∧ Below W.heap.size W wr) (fun u _ => 64 - (intOf u).toNat)
        case atStart => exact ⟨0, Nat.zero_le _, rfl, E0, E1, E2⟩
        case round =>
          obtain ⟨j, hj, rfl, hs, hx, hbw⟩ := hrel
          by_cases hjl : j < 64
          · have HS : Hid (Ew wr wc.heap.size (q j).1 (q j).2) := hs
            have HX : Hid (El wr p9 xh xl) := hx
            have HB : Hid (Below W.heap.size W wr) := hbw
            have s1 := hs.hi
            have s0 := hs.lo
            have hz := hs.toEl.lt
            clear hs hx hbw
            go_wp2_with fail
            refine ((SQ.out j).go _).mono ?_
            rintro e w2 ⟨rfl, hb2⟩
            have HS2 : Hid (Ew w2 wc.heap.size (q j).1 (q j).2) := (HS.out.alloc _).below hb2
            have HX2 : Hid (El w2 p9 xh xl) := (HX.out.alloc _).below hb2
            have HB2 : Hid (Below W.heap.size W w2) := (HB.out.alloc HB.out.size _).trans (hb2.mono (by have := HB.out.size; simp; omega))
            have g1 := HS2.out.hi
            have g0 := HS2.out.lo
            have t1 := HS2.out.fhi
            have t0 := HS2.out.flo
            clear hb2 HS HX HB s1 s0
            go_wp2
            go_roundw
            case rel => exact ⟨j + 1, hjl, by go_num, HS2.out.set _ _, HX2.out.other (by omega) _ _, (HB2.out.setCell hle _).setCell hle _⟩
            case measure => simp [intOf]; omega
          · obtain rfl : j = 64 := by omega
            rw [show q 64 = (xh, xl) from QN.out] at hs
            have HS : Hid (Ew wr wc.heap.size xh xl) := hs
            have HX : Hid (El wr p9 xh xl) := hx
            have HB : Hid (Below W.heap.size W wr) := hbw
            clear hs hx hbw
            go_wp2_with fail
            refine (AW.go _).mono ?_
            rintro e w2 ⟨rfl, hb2⟩
            have HS2 := (HS.out.alloc _).below hb2
            have HX2 := (HX.out.alloc _).below hb2
            have HB2 : Hid (Below W.heap.size W w2) := (HB.out.alloc HB.out.size _).trans (hb2.mono (by have := HB.out.size; simp; omega))
            obtain ⟨⟨g1, g0⟩, _, _⟩ := HS2
            obtain ⟨x1, x0⟩ := HX2
            clear hb2 HS HX HB
            go_wp2
            go_ret
            exact ⟨rfl, HB2.out⟩
      · go_loopw [12] (fun u wr => ∃ j : Nat, j ≤ 128 ∧ u = .int .i64 j ∧ Ew wr wc.heap.size (q j).1 (q j).2 ∧ El wr p9 xh xl ∧ Below W.heap.size W wr) (fun u _ => 128 - (intOf u).toNat)
        case atStart => exact ⟨0, Nat.zero_le _, rfl, E0, E1, E2⟩
        case round =>
          obtain ⟨j, hj, rfl, hs, hx, hbw⟩ := hrel
          by_cases hjl : j < 128
          · have HS : Hid (Ew wr wc.heap.size (q j).1 (q j).2) := hs
            have HX : Hid (El wr p9 xh xl) := hx
            have HB : Hid (Below W.heap.size W wr) := hbw
            have s1 := hs.hi
            have s0 := hs.lo
            have hz := hs.toEl.lt
            clear hs hx hbw
            go_wp2_with fail
            refine ((SQ.out j).go _).mono ?_
            rintro e w2 ⟨rfl, hb2⟩
            have HS2 : Hid (Ew w2 wc.heap.size (q j).1 (q j).2) := (HS.out.alloc _).below hb2
            have HX2 : Hid (El w2 p9 xh xl) := (HX.out.alloc _).below hb2
            have HB2 : Hid (Below W.heap.size W w2) := (HB.out.alloc HB.out.size _).trans (hb2.mono (by have := HB.out.size; simp; omega))
            have g1 := HS2.out.hi
            have g0 := HS2.out.lo
            have t1 := HS2.out.fhi
            have t0 := HS2.out.flo
            clear hb2 HS HX HB s1 s0
            go_wp2
            go_roundw
            case rel => exact ⟨j + 1, hjl, by go_num, HS2.out.set _ _, HX2.out.other (by omega) _ _, (HB2.out.setCell hle _).setCell hle _⟩
            case measure => simp [intOf]; omega
          · obtain rfl : j = 128 := by omega
            rw [show q 128 = (xh, xl) from QN.out] at hs
            have HS : Hid (Ew wr wc.heap.size xh xl) := hs
            have HX : Hid (El wr p9 xh xl) := hx
            have HB : Hid (Below W.heap.size W wr) := hbw
            clear hs hx hbw
            go_wp2_with fail
            refine (AW.go _).mono ?_
            rintro e w2 ⟨rfl, hb2⟩
            have HS2 := (HS.out.alloc _).below hb2
            have HX2 := (HX.out.alloc _).below hb2
            have HB2 : Hid (Below W.heap.size W w2) := (HB.out.alloc HB.out.size _).trans (hb2.mono (by have := HB.out.size; simp; omega))
            obtain ⟨⟨g1, g0⟩, _, _⟩ := HS2
            obtain ⟨x1, x0⟩ := HX2
            clear hb2 HS HX HB
            go_wp2
            go_ret
            exact ⟨rfl, HB2.out⟩
end Go.Proofs.Ytogecppdeoinhab
