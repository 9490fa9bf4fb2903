/- The walk of steeplelaw02.TowerPowers over the seat's translation. -/
import Derived.Test.YtdjndcgocmmmcaaTwBl
namespace Go.Proofs.Ytdjndcgocmmmcaa
open Go.RowKit

/-- What 'of' makes of one element. -/
def Cut1 (level k : Int) (ah al xh xl : Nat) : Prop := ∀ W b cap, b < W.heap.size → El W b ah al →
  Calls Try.prog 39 #[.int .i64 level, .slice (some ⟨b, 0, none⟩) 1 cap] W fun e w' => ∃ g cap2, e = .returned (.tuple #[.int .i64 k, .slice (some ⟨g, 0, none⟩) 1 cap2]) ∧ El w' g xh xl ∧ Below W.heap.size W w'
theorem cut1_of (level : Int) (k : Nat) (hk : k < 8) (fk : (wrap64 (level.tmod 8 + 8)).tmod 8 = (k : Int)) (ah al : Nat) (a0 : al < 2 ^ 64) :
    Cut1 level k ah al (cutE k (ah, al)).1 (cutE k (ah, al)).2 := by
  intro W b cap hb hx
  refine (cut_of level k hk fk b 0 cap [(ah, al)] (by simp) (by simp; exact a0) W hb ?_).mono ?_
  · intro i hi
    rcases i with _ | i
    · exact ⟨hx.hi, hx.lo⟩
    · simp at hi
  · rintro e w' ⟨v, rfl, hown, hbw⟩
    obtain ⟨g, cap2, rfl, hc⟩ := row_cells (es := [(ah, al)].map (cutE k)) (by simp) hown
    exact ⟨g, cap2, rfl, ⟨hc 0 (by simp), hc 1 (by simp)⟩, hbw⟩

set_option maxHeartbeats 8000000 in
set_option maxRecDepth 100000 in
theorem powers_core (level k : Int) (ah al m n xh xl rh rl sh sl th tl uh ul vh vl : Nat) (hm : m < 4294967296) (hn : n < 4294967296)
    (HOF : Cut1 level k ah al xh xl)
    (P1 : Ret 31 #[.int .i64 k, .agg #[.int .u64 (xh : Int), .int .u64 (xl : Int)], .int .u64 (IntKind.u64.wrap ((m : Int) + (n : Int)))] (.agg #[.int .u64 (rh : Int), .int .u64 (rl : Int)]))
    (P2 : Ret 31 #[.int .i64 k, .agg #[.int .u64 (xh : Int), .int .u64 (xl : Int)], .int .u64 (m : Int)] (.agg #[.int .u64 (sh : Int), .int .u64 (sl : Int)]))
    (P3 : Ret 31 #[.int .i64 k, .agg #[.int .u64 (xh : Int), .int .u64 (xl : Int)], .int .u64 (n : Int)] (.agg #[.int .u64 (th : Int), .int .u64 (tl : Int)]))
    (M1 : Ret 14 #[.int .i64 k, .agg #[.int .u64 (sh : Int), .int .u64 (sl : Int)], .agg #[.int .u64 (th : Int), .int .u64 (tl : Int)]] (.agg #[.int .u64 (rh : Int), .int .u64 (rl : Int)]))
    (P4 : Ret 31 #[.int .i64 k, .agg #[.int .u64 (xh : Int), .int .u64 (xl : Int)], .int .u64 ((m : Int).tmod 1000)] (.agg #[.int .u64 (uh : Int), .int .u64 (ul : Int)]))
    (P5 : Ret 31 #[.int .i64 k, .agg #[.int .u64 (uh : Int), .int .u64 (ul : Int)], .int .u64 ((n : Int).tmod 1000)] (.agg #[.int .u64 (vh : Int), .int .u64 (vl : Int)]))
    (P6 : Ret 31 #[.int .i64 k, .agg #[.int .u64 (xh : Int), .int .u64 (xl : Int)], .int .u64 (IntKind.u64.wrap ((m : Int).tmod 1000 * (n : Int).tmod 1000))] (.agg #[.int .u64 (vh : Int), .int .u64 (vl : Int)]))
    (AW : Ret 9 #[] (.bool true))
    (W : World) :
    Calls Try.prog 7 #[.int .i64 level, .agg #[.int .u64 (ah : Int), .int .u64 (al : Int)], .agg #[.int .u32 (m : Int), .int .u32 (n : Int)]] W fun e w' => e = .returned (.bool true) ∧ Below W.heap.size W w' := by
  go_enter Try.func7, Try.ntmps7
  go_wp2_with fail
  refine Calls.mono (HOF _ _ _ ?b ?x1) ?_
  case b => simp
  case x1 => exact ⟨by simp [go_sem], by simp [go_sem]⟩
  rintro e w1 ⟨g, cap2, rfl, e1, hb1⟩
  have B0 : Bl W w1 [(g, xh, xl)] [] := ⟨⟨⟨e1.hi, e1.lo⟩, trivial⟩, trivial, ((((Below.refl _ _).alloc (Nat.le_refl _) _).alloc (by simp) _).alloc (by simp <;> omega) _).trans (hb1.mono (by simp <;> omega))⟩
  have c0 : w1.cell? ⟨W.heap.size + 1, 0, none⟩ = some (.int .u32 (m : Int)) := keepc hb1 (by simp [go_sem])
  have c1 : w1.cell? ⟨W.heap.size + 1, 1, none⟩ = some (.int .u32 (n : Int)) := keepc hb1 (by simp [go_sem])
  clear HOF hb1 e1
  go_upto_region 2 with fail
  go_region
  go_upto_region 3 with fail
  have B := B0.drew
  clear B0 c0 c1
  generalize w1.drew = w2 at *
  have F := B.facts
  simp only [Els, Wrs, and_true] at F
  go_region_held3 (fun w => w.cell? ⟨g, 0, none⟩ = some (.int .u64 (xh : Int)) ∧ w.cell? ⟨g, 1, none⟩ = some (.int .u64 (xl : Int))) (go_keep) (first | (go_at_call 9; refine (AW.go _).mono ?_; rintro e w' ⟨rfl, hb'⟩; have B'' := Bl.below (w' := w') (by first | exact B | exact B.drew | exact B.room | exact B.drew.room | exact B.room.drew | exact B.alloc _ | exact B.drew.alloc _ | exact (B.alloc _).drew) hb'; clear F B hb'; have B := B''; clear B''; (try simp only [World.size_drew] at B); have F := B.facts; simp only [Els, Wrs, and_true] at F; have N := B.nes; simp only [Nes, List.map, and_true] at N; have N2 := B.b.size) | (go_at_call 14; refine (M1.go _).mono ?_; rintro e w' ⟨rfl, hb'⟩; have B'' := Bl.below (w' := w') (by first | exact B | exact B.drew | exact B.room | exact B.drew.room | exact B.room.drew | exact B.alloc _ | exact B.drew.alloc _ | exact (B.alloc _).drew) hb'; clear F B hb'; have B := B''; clear B''; (try simp only [World.size_drew] at B); have F := B.facts; simp only [Els, Wrs, and_true] at F; have N := B.nes; simp only [Nes, List.map, and_true] at N; have N2 := B.b.size) | (go_at_call_of 31 (Value.int .u64 (m : Int)); refine (P2.go _).mono ?_; rintro e w' ⟨rfl, hb'⟩; have B'' := Bl.below (w' := w') (by first | exact B | exact B.drew | exact B.room | exact B.drew.room | exact B.room.drew | exact B.alloc _ | exact B.drew.alloc _ | exact (B.alloc _).drew) hb'; clear F B hb'; have B := B''; clear B''; (try simp only [World.size_drew] at B); have F := B.facts; simp only [Els, Wrs, and_true] at F; have N := B.nes; simp only [Nes, List.map, and_true] at N; have N2 := B.b.size) | (go_at_call_of 31 (Value.int .u64 (n : Int)); refine (P3.go _).mono ?_; rintro e w' ⟨rfl, hb'⟩; have B'' := Bl.below (w' := w') (by first | exact B | exact B.drew | exact B.room | exact B.drew.room | exact B.room.drew | exact B.alloc _ | exact B.drew.alloc _ | exact (B.alloc _).drew) hb'; clear F B hb'; have B := B''; clear B''; (try simp only [World.size_drew] at B); have F := B.facts; simp only [Els, Wrs, and_true] at F; have N := B.nes; simp only [Nes, List.map, and_true] at N; have N2 := B.b.size) | (go_at_call_of 31 (Value.int .u64 (uh : Int)); refine (P5.go _).mono ?_; rintro e w' ⟨rfl, hb'⟩; have B'' := Bl.below (w' := w') (by first | exact B | exact B.drew | exact B.room | exact B.drew.room | exact B.room.drew | exact B.alloc _ | exact B.drew.alloc _ | exact (B.alloc _).drew) hb'; clear F B hb'; have B := B''; clear B''; (try simp only [World.size_drew] at B); have F := B.facts; simp only [Els, Wrs, and_true] at F; have N := B.nes; simp only [Nes, List.map, and_true] at N; have N2 := B.b.size) | (go_at_call_of 31 ((m : Int) + (n : Int)); refine (P1.go _).mono ?_; rintro e w' ⟨rfl, hb'⟩; have B'' := Bl.below (w' := w') (by first | exact B | exact B.drew | exact B.room | exact B.drew.room | exact B.room.drew | exact B.alloc _ | exact B.drew.alloc _ | exact (B.alloc _).drew) hb'; clear F B hb'; have B := B''; clear B''; (try simp only [World.size_drew] at B); have F := B.facts; simp only [Els, Wrs, and_true] at F; have N := B.nes; simp only [Nes, List.map, and_true] at N; have N2 := B.b.size) | (go_at_call_of 31 ((n : Int)); refine (P6.go _).mono ?_; rintro e w' ⟨rfl, hb'⟩; have B'' := Bl.below (w' := w') (by first | exact B | exact B.drew | exact B.room | exact B.drew.room | exact B.room.drew | exact B.alloc _ | exact B.drew.alloc _ | exact (B.alloc _).drew) hb'; clear F B hb'; have B := B''; clear B''; (try simp only [World.size_drew] at B); have F := B.facts; simp only [Els, Wrs, and_true] at F; have N := B.nes; simp only [Nes, List.map, and_true] at N; have N2 := B.b.size) | (go_at_call 31; refine (P4.go _).mono ?_; rintro e w' ⟨rfl, hb'⟩; have B'' := Bl.below (w' := w') (by first | exact B | exact B.drew | exact B.room | exact B.drew.room | exact B.room.drew | exact B.alloc _ | exact B.drew.alloc _ | exact (B.alloc _).drew) hb'; clear F B hb'; have B := B''; clear B''; (try simp only [World.size_drew] at B); have F := B.facts; simp only [Els, Wrs, and_true] at F; have N := B.nes; simp only [Nes, List.map, and_true] at N; have N2 := B.b.size))
  all_goals
    go_wp2
    go_ret
    exact ⟨rfl, B.b⟩
end Go.Proofs.Ytdjndcgocmmmcaa
