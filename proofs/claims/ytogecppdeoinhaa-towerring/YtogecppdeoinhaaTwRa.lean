/- steeplelaw02.TowerRing gives true, whatever the input. -/
import Derived.Test.YtogecppdeoinhaaTwR
namespace Go.Proofs.Ytogecppdeoinhaa
open Go.RowKit

/-- The law's walk: true, whatever the input. -/
theorem ring_any (level : Int) (ah al bh bl ch cl : Nat) (a1 : ah < 2 ^ 64) (a0 : al < 2 ^ 64) (b1 : bh < 2 ^ 64) (b0 : bl < 2 ^ 64) (c1 : ch < 2 ^ 64) (c0 : cl < 2 ^ 64) (W : World) :
    Calls Try.prog 6 #[.int .i64 level, .agg #[.int .u64 (ah : Int), .int .u64 (al : Int), .int .u64 (bh : Int), .int .u64 (bl : Int), .int .u64 (ch : Int), .int .u64 (cl : Int)]] W fun e w' => e = .returned (.bool true) ∧ Below W.heap.size W w' := by
  obtain ⟨k, hk, fk⟩ := cut_level level
  have X := cut_closed k hk (ah, al) a0
  have Y := cut_closed k hk (bh, bl) b0
  have Z := cut_closed k hk (ch, cl) c0
  obtain ⟨x1, x0⟩ := cut_lt k (ah, al) a1 a0
  obtain ⟨y1, y0⟩ := cut_lt k (bh, bl) b1 b0
  obtain ⟨z1, z0⟩ := cut_lt k (ch, cl) c1 c0
  have HOF : ∀ W b cap, b < W.heap.size → El W b ah al → W.cell? ⟨b, 2, none⟩ = some (.int .u64 (bh : Int)) → W.cell? ⟨b, 3, none⟩ = some (.int .u64 (bl : Int)) → W.cell? ⟨b, 4, none⟩ = some (.int .u64 (ch : Int)) → W.cell? ⟨b, 5, none⟩ = some (.int .u64 (cl : Int)) →
      Calls Try.prog 36 #[.int .i64 level, .slice (some ⟨b, 0, none⟩) 3 cap] W fun e w' => ∃ g cap2, e = .returned (.tuple #[.int .i64 (k : Int), .slice (some ⟨g, 0, none⟩) 3 cap2]) ∧ El w' g (cutE k (ah, al)).1 (cutE k (ah, al)).2 ∧ w'.cell? ⟨g, 2, none⟩ = some (.int .u64 ((cutE k (bh, bl)).1 : Int)) ∧ w'.cell? ⟨g, 3, none⟩ = some (.int .u64 ((cutE k (bh, bl)).2 : Int)) ∧ w'.cell? ⟨g, 4, none⟩ = some (.int .u64 ((cutE k (ch, cl)).1 : Int)) ∧ w'.cell? ⟨g, 5, none⟩ = some (.int .u64 ((cutE k (ch, cl)).2 : Int)) ∧ Below W.heap.size W w' := by
    intro W b cap hb hx h2 h3 h4 h5
    refine (cut_of level k hk fk b 0 cap [(ah, al), (bh, bl), (ch, cl)] (by simp) (by simp; exact ⟨a0, b0, c0⟩) W hb ?_).mono ?_
    · intro i hi
      rcases i with _ | _ | _ | i
      · exact ⟨hx.hi, hx.lo⟩
      · exact ⟨h2, h3⟩
      · exact ⟨h4, h5⟩
      · simp at hi; omega
    · rintro e w' ⟨v, rfl, hown, hbw⟩
      obtain ⟨g, cap2, rfl, hc⟩ := row_cells (es := [(ah, al), (bh, bl), (ch, cl)].map (cutE k)) (by simp) hown
      exact ⟨g, cap2, rfl, ⟨hc 0 (by simp), hc 1 (by simp)⟩, hc 2 (by simp), hc 3 (by simp), hc 4 (by simp), hc 5 (by simp), hbw⟩
  generalize cutE k (ah, al) = x at *
  generalize cutE k (bh, bl) = y at *
  generalize cutE k (ch, cl) = z at *
  obtain ⟨xh, xl⟩ := x
  obtain ⟨yh, yl⟩ := y
  obtain ⟨zh, zl⟩ := z
  simp only at X Y Z x1 x0 y1 y0 z1 z0 HOF
  refine ring_core level k ah al bh bl ch cl xh xl yh yl zh zl (Tw.pmh xh xl yh yl) (Tw.pml xh xl yh yl) (Tw.pmh xh xl (Tw.pmh yh yl zh zl) (Tw.pml yh yl zh zl)) (Tw.pml xh xl (Tw.pmh yh yl zh zl) (Tw.pml yh yl zh zl)) (Tw.pmh yh yl zh zl) (Tw.pml yh yl zh zl) (yh ^^^ zh) (yl ^^^ zl) (Tw.pmh xh xl (yh ^^^ zh) (yl ^^^ zl)) (Tw.pml xh xl (yh ^^^ zh) (yl ^^^ zl)) (Tw.pmh xh xl zh zl) (Tw.pml xh xl zh zl) HOF ?_ ?_ ?_ ?_ ?_ ?_ ?_ ?_ ?_ awake2 one_any ?_ ?_ sum_none W
  · exact fun W => mul_of k xh xl yh yl X Y x1 x0 y1 y0 W
  · intro W
    have := mul_of k yh yl xh xl Y X y1 y0 x1 x0 W
    rwa [(Tw.pm_comm xh xl yh yl).1, (Tw.pm_comm xh xl yh yl).2] at this
  · intro W
    have := mul_of k (Tw.pmh xh xl yh yl) (Tw.pml xh xl yh yl) zh zl (of_pm hk X Y) Z (Tw.pmh_lt _ _ _ _) (Tw.pml_lt _ _ _ _) z1 z0 W
    rwa [(Tw.pm_assoc xh xl yh yl zh zl).1, (Tw.pm_assoc xh xl yh yl zh zl).2] at this
  · exact fun W => mul_of k yh yl zh zl Y Z y1 y0 z1 z0 W
  · exact fun W => mul_of k xh xl _ _ X (of_pm hk Y Z) x1 x0 (Tw.pmh_lt _ _ _ _) (Tw.pml_lt _ _ _ _) W
  · exact fun W => add_any yh yl zh zl y1 y0 z1 z0 W
  · exact fun W => mul_of k xh xl _ _ X (of_xor hk Y Z) x1 x0 (Nat.xor_lt_two_pow y1 z1) (Nat.xor_lt_two_pow y0 z0) W
  · exact fun W => mul_of k xh xl zh zl X Z x1 x0 z1 z0 W
  · intro W
    have := add_any (Tw.pmh xh xl yh yl) (Tw.pml xh xl yh yl) (Tw.pmh xh xl zh zl) (Tw.pml xh xl zh zl) (Tw.pmh_lt _ _ _ _) (Tw.pml_lt _ _ _ _) (Tw.pmh_lt _ _ _ _) (Tw.pml_lt _ _ _ _) W
    rwa [← (Tw.pm_add xh xl yh yl zh zl).1, ← (Tw.pm_add xh xl yh yl zh zl).2] at this
  · intro W
    have := mul_of k xh xl 0 1 X (of_one k hk) x1 x0 (by decide) (by decide) W
    rwa [(Tw.pm_one x1 x0).1, (Tw.pm_one x1 x0).2] at this
  · intro W b cap hb hx h2 h3 h4 h5
    have := sum_any b 0 cap [(xh, xl), (yh, yl), (xh, xl)] (by intro e he; simp only [List.mem_cons, List.not_mem_nil, or_false] at he; rcases he with rfl | rfl | rfl; exact ⟨x1, x0⟩; exact ⟨y1, y0⟩; exact ⟨x1, x0⟩) (by simp) W hb (by
      intro i hi
      rcases i with _ | _ | _ | i
      · exact ⟨hx.hi, hx.lo⟩
      · exact ⟨h2, h3⟩
      · exact ⟨h4, h5⟩
      · simp at hi; omega)
    have e1 : (0 ^^^ xh ^^^ yh) ^^^ xh = yh := by rw [Nat.zero_xor, Nat.xor_comm xh yh, Nat.xor_assoc, Nat.xor_self, Nat.xor_zero]
    have e0 : (0 ^^^ xl ^^^ yl) ^^^ xl = yl := by rw [Nat.zero_xor, Nat.xor_comm xl yl, Nat.xor_assoc, Nat.xor_self, Nat.xor_zero]
    rwa [show xsum [(xh, xl), (yh, yl), (xh, xl)] = ((0 ^^^ xh ^^^ yh) ^^^ xh, (0 ^^^ xl ^^^ yl) ^^^ xl) from rfl, e1, e0] at this
end Go.Proofs.Ytogecppdeoinhaa
