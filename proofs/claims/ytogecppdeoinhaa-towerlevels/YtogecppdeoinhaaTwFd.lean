/- What 'of' makes of two elements, in integers. -/
import Derived.Test.YtogecppdeoinhaaTwBi
namespace Go.Proofs.Ytogecppdeoinhaa
open Go.RowKit

/-- What 'of' makes of two elements, the words as integers. -/
def Cut2i (level k : Int) (ah al bh bl : Nat) (xh xl yh yl : Int) : Prop := ∀ W b cap, b < W.heap.size → El W b ah al → W.cell? ⟨b, 2, none⟩ = some (.int .u64 (bh : Int)) → W.cell? ⟨b, 3, none⟩ = some (.int .u64 (bl : Int)) →
  Calls Try.prog 36 #[.int .i64 level, .slice (some ⟨b, 0, none⟩) 2 cap] W fun e w' => ∃ g cap2, e = .returned (.tuple #[.int .i64 k, .slice (some ⟨g, 0, none⟩) 2 cap2]) ∧ w'.cell? ⟨g, 0, none⟩ = some (.int .u64 xh) ∧ w'.cell? ⟨g, 1, none⟩ = some (.int .u64 xl) ∧ w'.cell? ⟨g, 2, none⟩ = some (.int .u64 yh) ∧ w'.cell? ⟨g, 3, none⟩ = some (.int .u64 yl) ∧ Below W.heap.size W w'
theorem Cut2.ints {level k : Int} {ah al bh bl xh xl yh yl : Nat} (h : Cut2 level k ah al bh bl xh xl yh yl) : Cut2i level k ah al bh bl xh xl yh yl := fun W b cap hb hx h2 h3 =>
  (h W b cap hb hx h2 h3).mono fun _ _ ⟨g, c, e1, e2, e3⟩ => ⟨g, c, e1, e2.hi, e2.lo, e3⟩

end Go.Proofs.Ytogecppdeoinhaa
