/- The walk of tower.inverse over the seat's translation, one level. -/
import Derived.Test.YtejoombhcnldmaaTwBl
namespace Go.Proofs.Ytejoombhcnldmaa
open Go.RowKit

set_option maxHeartbeats 8000000 in
set_option maxRecDepth 100000 in
theorem inv_core (l : Int) (_hl0 : ¬ l = 0) (hl1 : 1 ≤ l) (hl7 : l ≤ 7) (ah al hh hl lh ll mh ml oh ol sh sl ph pl nh nl bh bl uh ul vh vl rh rl : Nat)
    (HL : Ret 71 #[.agg #[.int .u64 (ah : Int), .int .u64 (al : Int)]] (.int .i64 l))
    (SP : Ret 99 #[.int .i64 l, .agg #[.int .u64 (ah : Int), .int .u64 (al : Int)]] (.tuple #[.agg #[.int .u64 (hh : Int), .int .u64 (hl : Int)], .agg #[.int .u64 (lh : Int), .int .u64 (ll : Int)]]))
    (MX : Ret 100 #[.int .i64 (IntKind.i64.wrap (l - 1)), .agg #[.int .u64 (hh : Int), .int .u64 (hl : Int)]] (.agg #[.int .u64 (mh : Int), .int .u64 (ml : Int)]))
    (A1 : Ret 36 #[.agg #[.int .u64 (lh : Int), .int .u64 (ll : Int)], .agg #[.int .u64 (mh : Int), .int .u64 (ml : Int)]] (.agg #[.int .u64 (oh : Int), .int .u64 (ol : Int)]))
    (SQ : Ret 101 #[.agg #[.int .u64 (hh : Int), .int .u64 (hl : Int)]] (.agg #[.int .u64 (sh : Int), .int .u64 (sl : Int)]))
    (P1 : Ret 52 #[.agg #[.int .u64 (lh : Int), .int .u64 (ll : Int)], .agg #[.int .u64 (oh : Int), .int .u64 (ol : Int)]] (.agg #[.int .u64 (ph : Int), .int .u64 (pl : Int)]))
    (A2 : Ret 36 #[.agg #[.int .u64 (sh : Int), .int .u64 (sl : Int)], .agg #[.int .u64 (ph : Int), .int .u64 (pl : Int)]] (.agg #[.int .u64 (nh : Int), .int .u64 (nl : Int)]))
    (IV : Ret 98 #[.agg #[.int .u64 (nh : Int), .int .u64 (nl : Int)]] (.agg #[.int .u64 (bh : Int), .int .u64 (bl : Int)]))
    (P2 : Ret 52 #[.agg #[.int .u64 (hh : Int), .int .u64 (hl : Int)], .agg #[.int .u64 (bh : Int), .int .u64 (bl : Int)]] (.agg #[.int .u64 (uh : Int), .int .u64 (ul : Int)]))
    (P3 : Ret 52 #[.agg #[.int .u64 (oh : Int), .int .u64 (ol : Int)], .agg #[.int .u64 (bh : Int), .int .u64 (bl : Int)]] (.agg #[.int .u64 (vh : Int), .int .u64 (vl : Int)]))
    (JN : Ret 102 #[.int .i64 l, .agg #[.int .u64 (uh : Int), .int .u64 (ul : Int)], .agg #[.int .u64 (vh : Int), .int .u64 (vl : Int)]] (.agg #[.int .u64 (rh : Int), .int .u64 (rl : Int)])) :
    Ret 98 #[.agg #[.int .u64 (ah : Int), .int .u64 (al : Int)]] (.agg #[.int .u64 (rh : Int), .int .u64 (rl : Int)]) := by
  intro W
  go_enter Try.func98, Try.ntmps98
  go_wp2_with fail
  refine (HL.go _).mono ?_
  rintro e w1 ⟨rfl, hb1⟩
  have B := Bl.below (((Bl.start W).laid ah al).room) hb1
  simp only [alloc_size] at B
  have F := B.facts
  simp only [Els, Wrs, and_true] at F
  clear hb1
  go_wp2_with fail
  refine (SP.go _).mono ?_
  rintro e w2 ⟨rfl, hb2⟩
  have hq2 : W.heap.size + 1 < w2.heap.size := cell_lt (B.below hb2).wrs.1.1
  have B2 := ((B.below hb2).laid hh hl).laid lh ll
  clear F B hb2 HL SP
  go_upto_region 5 with fail
  have B := B2
  clear B2
  simp only [alloc_size] at B
  generalize (w2.alloc (Obj.cells #[.int .u64 (hh : Int), .int .u64 (hl : Int)] 26)).alloc (Obj.cells #[.int .u64 (lh : Int), .int .u64 (ll : Int)] 26) = w3 at *
  have hp2 : W.heap.size ≤ W.heap.size + 1 := by omega
  have hq5 : W.heap.size + 1 < w2.heap.size + 1 := by omega
  generalize W.heap.size + 1 = p2 at *
  generalize w2.heap.size + 1 = p5 at *
  generalize w2.heap.size = p4 at *
  have B1 : Bl W w3 [(p5, lh, ll), (p4, hh, hl)] [p2] := ⟨⟨B.els.1, B.els.2.1, trivial⟩, B.wrs, B.b⟩
  clear B
  have B := B1
  clear B1
  have F := B.facts
  simp only [Els, Wrs, and_true] at F
  have N2 := B.b.size
  have N := B.nes
  simp only [Nes, List.map, and_true] at N
  go_cut [6] (fun s6 w => ∃ p6, s6 = .pointer (some ⟨p6, 0, none⟩) ∧ ¬ p6 = p2 ∧ Bl W w [(p6, oh, ol), (p5, lh, ll), (p4, hh, hl)] [p2])
  case first =>
    clear SQ P1 A2 IV P2 P3 JN
    go_region_held3 (fun w => w.cell? ⟨p5, 0, none⟩ = some (.int .u64 (lh : Int)) ∧ w.cell? ⟨p5, 1, none⟩ = some (.int .u64 (ll : Int)) ∧ w.cell? ⟨p4, 0, none⟩ = some (.int .u64 (hh : Int)) ∧ w.cell? ⟨p4, 1, none⟩ = some (.int .u64 (hl : Int))) (go_keep) (first | (go_at_call 100; refine (MX.go _).mono ?_; rintro e w' ⟨rfl, hb'⟩; have B'' := Bl.below (w' := w') (by first | exact B | exact B.drew | exact B.room | exact B.drew.room | exact B.room.drew | exact B.alloc _ | exact B.drew.alloc _ | exact (B.alloc _).drew) hb'; clear F B hb'; have B := B''; clear B''; (try simp only [World.size_drew] at B); have F := B.facts; simp only [Els, Wrs, and_true] at F; have N := B.nes; simp only [Nes, List.map, and_true] at N; have N2 := B.b.size) | (go_at_call_of 36 (#[.agg #[.int .u64 (lh : Int), .int .u64 (ll : Int)], .agg #[.int .u64 (mh : Int), .int .u64 (ml : Int)]] : Array Value); refine (A1.go _).mono ?_; rintro e w' ⟨rfl, hb'⟩; have B'' := Bl.below (w' := w') (by first | exact B | exact B.drew | exact B.room | exact B.drew.room | exact B.room.drew | exact B.alloc _ | exact B.drew.alloc _ | exact (B.alloc _).drew) hb'; clear F B hb'; have B := B''; clear B''; (try simp only [World.size_drew] at B); have F := B.facts; simp only [Els, Wrs, and_true] at F; have N := B.nes; simp only [Nes, List.map, and_true] at N; have N2 := B.b.size))
    all_goals
      go_wp2_with fail
      go_meet
      first | exact ⟨_, rfl, by omega, B.laid _ _⟩ | exact ⟨_, rfl, by omega, B.put (by omega) (by simp; omega) (by simp; omega) _ _⟩
  case rest =>
    obtain ⟨p6, rfl, hq6, B⟩ := hcut
    clear F N N2 MX A1
    have F := B.facts
    simp only [Els, Wrs, and_true] at F
    have N2 := B.b.size
    have N := B.nes
    simp only [Nes, List.map, and_true] at N
    go_upto_region 6 with fail
    go_cut [7] (fun s7 w => ∃ p7, s7 = .pointer (some ⟨p7, 0, none⟩) ∧ Bl W w [(p7, nh, nl), (p6, oh, ol), (p5, lh, ll), (p4, hh, hl)] [p2])
    case first =>
      clear IV P2 P3 JN
      go_region_held3 (fun w => w.cell? ⟨p6, 0, none⟩ = some (.int .u64 (oh : Int)) ∧ w.cell? ⟨p6, 1, none⟩ = some (.int .u64 (ol : Int)) ∧ w.cell? ⟨p5, 0, none⟩ = some (.int .u64 (lh : Int)) ∧ w.cell? ⟨p5, 1, none⟩ = some (.int .u64 (ll : Int)) ∧ w.cell? ⟨p4, 0, none⟩ = some (.int .u64 (hh : Int)) ∧ w.cell? ⟨p4, 1, none⟩ = some (.int .u64 (hl : Int))) (go_keep) (first | (go_at_call 101; refine (SQ.go _).mono ?_; rintro e w' ⟨rfl, hb'⟩; have B'' := Bl.below (w' := w') (by first | exact B | exact B.drew | exact B.room | exact B.drew.room | exact B.room.drew | exact B.alloc _ | exact B.drew.alloc _ | exact (B.alloc _).drew) hb'; clear F B hb'; have B := B''; clear B''; (try simp only [World.size_drew] at B); have F := B.facts; simp only [Els, Wrs, and_true] at F; have N := B.nes; simp only [Nes, List.map, and_true] at N; have N2 := B.b.size) | (go_at_call 52; refine (P1.go _).mono ?_; rintro e w' ⟨rfl, hb'⟩; have B'' := Bl.below (w' := w') (by first | exact B | exact B.drew | exact B.room | exact B.drew.room | exact B.room.drew | exact B.alloc _ | exact B.drew.alloc _ | exact (B.alloc _).drew) hb'; clear F B hb'; have B := B''; clear B''; (try simp only [World.size_drew] at B); have F := B.facts; simp only [Els, Wrs, and_true] at F; have N := B.nes; simp only [Nes, List.map, and_true] at N; have N2 := B.b.size) | (go_at_call 36; refine (A2.go _).mono ?_; rintro e w' ⟨rfl, hb'⟩; have B'' := Bl.below (w' := w') (by first | exact B | exact B.drew | exact B.room | exact B.drew.room | exact B.room.drew | exact B.alloc _ | exact B.drew.alloc _ | exact (B.alloc _).drew) hb'; clear F B hb'; have B := B''; clear B''; (try simp only [World.size_drew] at B); have F := B.facts; simp only [Els, Wrs, and_true] at F; have N := B.nes; simp only [Nes, List.map, and_true] at N; have N2 := B.b.size))
      all_goals
        go_wp2_with fail
        go_meet
        first | exact ⟨_, rfl, B.laid _ _⟩ | exact ⟨_, rfl, B.put (by omega) (by simp; omega) (by simp; omega) _ _⟩
    case rest =>
      obtain ⟨p7, rfl, B⟩ := hcut
      clear F N N2 SQ P1 A2
      have F := B.facts
      simp only [Els, Wrs, and_true] at F
      go_wp2_with fail
      refine (IV.go _).mono ?_
      rintro e w4 ⟨rfl, hb4⟩
      have hq8 : p2 < w4.heap.size := cell_lt (B.below hb4).wrs.1.1
      have B5 := (B.below hb4).laid bh bl
      clear F B hb4 IV
      go_upto_region 8 with fail
      have B : Bl W (w4.alloc (Obj.cells #[.int .u64 (bh : Int), .int .u64 (bl : Int)] 26)) [(w4.heap.size, bh, bl), (p6, oh, ol), (p4, hh, hl)] [p2] := ⟨⟨B5.els.1, B5.els.2.2.1, B5.els.2.2.2.2.1, trivial⟩, B5.wrs, B5.b⟩
      clear B5
      generalize w4.alloc (Obj.cells #[.int .u64 (bh : Int), .int .u64 (bl : Int)] 26) = w5 at *
      generalize w4.heap.size = p8 at *
      have F := B.facts
      simp only [Els, Wrs, and_true] at F
      have N2 := B.b.size
      have N := B.nes
      simp only [Nes, List.map, and_true] at N
      have hq : (¬ p8 = p2 ∧ ¬ p2 = p8) ∧ (¬ p6 = p2 ∧ ¬ p2 = p6) ∧ ¬ p4 = p2 ∧ ¬ p2 = p4 := by omega
      go_region_held3 (fun w => w.cell? ⟨p8, 0, none⟩ = some (.int .u64 (bh : Int)) ∧ w.cell? ⟨p8, 1, none⟩ = some (.int .u64 (bl : Int)) ∧ w.cell? ⟨p6, 0, none⟩ = some (.int .u64 (oh : Int)) ∧ w.cell? ⟨p6, 1, none⟩ = some (.int .u64 (ol : Int)) ∧ w.cell? ⟨p4, 0, none⟩ = some (.int .u64 (hh : Int)) ∧ w.cell? ⟨p4, 1, none⟩ = some (.int .u64 (hl : Int))) (go_keep) (first | (go_at_call_of 52 (#[.agg #[.int .u64 (hh : Int), .int .u64 (hl : Int)], .agg #[.int .u64 (bh : Int), .int .u64 (bl : Int)]] : Array Value); refine (P2.go _).mono ?_; rintro e w' ⟨rfl, hb'⟩; have B'' := Bl.below (w' := w') (by first | exact B | exact B.drew | exact B.room | exact B.drew.room | exact B.room.drew | exact B.alloc _ | exact B.drew.alloc _ | exact (B.alloc _).drew) hb'; clear F B hb'; have B := B''; clear B''; (try simp only [World.size_drew] at B); have F := B.facts; simp only [Els, Wrs, and_true] at F; have N := B.nes; simp only [Nes, List.map, and_true] at N; have N2 := B.b.size) | (go_at_call_of 52 (#[.agg #[.int .u64 (oh : Int), .int .u64 (ol : Int)], .agg #[.int .u64 (bh : Int), .int .u64 (bl : Int)]] : Array Value); refine (P3.go _).mono ?_; rintro e w' ⟨rfl, hb'⟩; have B'' := Bl.below (w' := w') (by first | exact B | exact B.drew | exact B.room | exact B.drew.room | exact B.room.drew | exact B.alloc _ | exact B.drew.alloc _ | exact (B.alloc _).drew) hb'; clear F B hb'; have B := B''; clear B''; (try simp only [World.size_drew] at B); have F := B.facts; simp only [Els, Wrs, and_true] at F; have N := B.nes; simp only [Nes, List.map, and_true] at N; have N2 := B.b.size) | (go_at_call 102; refine (JN.go _).mono ?_; rintro e w' ⟨rfl, hb'⟩; have B'' := Bl.below (w' := w') (by first | exact B | exact B.drew | exact B.room | exact B.drew.room | exact B.room.drew | exact B.alloc _ | exact B.drew.alloc _ | exact (B.alloc _).drew) hb'; clear F B hb'; have B := B''; clear B''; (try simp only [World.size_drew] at B); have F := B.facts; simp only [Els, Wrs, and_true] at F; have N := B.nes; simp only [Nes, List.map, and_true] at N; have N2 := B.b.size))
      all_goals
        go_wp2
        refine bodyPost_ret (v := .agg #[.int .u64 (rh : Int), .int .u64 (rl : Int)]) (by simp [results, Try.results98, go_sem, *]) rfl ⟨rfl, ?_⟩
        exact (B.b.setCell hp2 _).setCell hp2 _
end Go.Proofs.Ytejoombhcnldmaa
