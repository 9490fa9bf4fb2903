/- steeplelaw02.TowerSums gives true, whatever the input. -/
import Derived.Test.YtdjndcgocmmmcaaTwSu
import Derived.Test.YtdjndcgocmmmcaaSlD
namespace Go.Proofs.Ytdjndcgocmmmcaa
open Go.RowKit

/-- The law's walk: true, whatever the input. -/
theorem sums_any (l : Int) (a c : Option Addr) (cap cap2 : Nat) (es fs : List (Nat × Nat)) (he : ltE es) (hf : ltE fs) (W : World) (hra : ERow W a es) (hrc : ERow W c fs) :
    Calls Try.prog 6 #[.int .i64 l, .slice a es.length cap, .slice c fs.length cap2] W fun e w' => e = .returned (.bool true) ∧ Below W.heap.size W w' := by
  by_cases hb : 30 < es.length ∨ 30 < fs.length
  · exact sums_long l a c _ _ cap cap2 hb awake2 W
  · have h1 : es.length ≤ 30 := by omega
    have h2 : fs.length ≤ 30 := by omega
    refine sums_core l a c cap cap2 es fs W hra h1 h2 (fun j => xsum (es.take j)) (xsum es).1 (xsum es).2 (dotv l es fs).1 (dotv l es fs).2 (by show xsum (es.take 0) = _; rw [List.take_zero]; rfl)
      (by show xsum (es.take es.length) = _; rw [List.take_of_length_le (Nat.le_refl _)]) awake2 (fun j _ => lref_any _ _) (fun j hj => ?_)
      (fun w hb => sum_row a cap es he (by omega) w (hra.below hb)) (fun w hb => dot_any l a c cap cap2 es fs he hf (by omega) w (hra.below hb) (hrc.below hb))
      (fun w hb => ref_row a cap es (by omega) w (hra.below hb)) (fun w hb => ref_row c cap2 fs (by omega) w (hrc.below hb))
      (fun w a' c' q q' r1 r2 => rdot_any l a' c' q q' es fs he hf (by omega) w r1 r2) (same_any _ _) (same_any _ _)
    have := radd (xsum (es.take j)).1 (xsum (es.take j)).2 (es.getD j (0, 0)).1 (es.getD j (0, 0)).2 (xsum_lt es he j).1 (xsum_lt es he j).2 (he.at j).1 (he.at j).2
    simp only [take_sn es j hj, xsum_snoc]
    exact this
end Go.Proofs.Ytdjndcgocmmmcaa
