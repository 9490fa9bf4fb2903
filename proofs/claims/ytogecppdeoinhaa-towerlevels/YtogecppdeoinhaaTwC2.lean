/- Two elements cut down to a level: what the laws use of steeplelaw02.of. -/
import Derived.Test.YtogecppdeoinhaaTwBl
namespace Go.Proofs.Ytogecppdeoinhaa
open Go.RowKit

/-- What 'of' makes of two elements. -/
def Cut2 (level k : Int) (ah al bh bl xh xl yh yl : Nat) : Prop := ∀ W b cap, b < W.heap.size → El W b ah al → W.cell? ⟨b, 2, none⟩ = some (.int .u64 (bh : Int)) → W.cell? ⟨b, 3, none⟩ = some (.int .u64 (bl : Int)) →
  Calls Try.prog 36 #[.int .i64 level, .slice (some ⟨b, 0, none⟩) 2 cap] W fun e w' => ∃ g cap2, e = .returned (.tuple #[.int .i64 k, .slice (some ⟨g, 0, none⟩) 2 cap2]) ∧ El w' g xh xl ∧ w'.cell? ⟨g, 2, none⟩ = some (.int .u64 (yh : Int)) ∧ w'.cell? ⟨g, 3, none⟩ = some (.int .u64 (yl : Int)) ∧ Below W.heap.size W w'
theorem cut2_of (level : Int) (k : Nat) (hk : k < 8) (fk : (wrap64 (level.tmod 8 + 8)).tmod 8 = (k : Int)) (ah al bh bl : Nat) (a0 : al < 2 ^ 64) (b0 : bl < 2 ^ 64) :
    Cut2 level k ah al bh bl (cutE k (ah, al)).1 (cutE k (ah, al)).2 (cutE k (bh, bl)).1 (cutE k (bh, bl)).2 := by
  intro W b cap hb hx h2 h3
  refine (cut_of level k hk fk b 0 cap [(ah, al), (bh, bl)] (by simp) (by simp; exact ⟨a0, b0⟩) W hb ?_).mono ?_
  · intro i hi
    rcases i with _ | _ | i
    · exact ⟨hx.hi, hx.lo⟩
    · exact ⟨h2, h3⟩
    · simp at hi; omega
  · rintro e w' ⟨v, rfl, hown, hbw⟩
    obtain ⟨g, cap2, rfl, hc⟩ := row_cells (es := [(ah, al), (bh, bl)].map (cutE k)) (by simp) hown
    exact ⟨g, cap2, rfl, ⟨hc 0 (by simp), hc 1 (by simp)⟩, hc 2 (by simp), hc 3 (by simp), hbw⟩
end Go.Proofs.Ytogecppdeoinhaa
