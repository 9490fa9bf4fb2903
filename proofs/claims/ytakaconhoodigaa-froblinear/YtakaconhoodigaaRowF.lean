/- An argument of FrobLinear that is three elements, opened. -/
import Derived.Test.YtakaconhoodigaaRowE
namespace Go.Proofs.Ytakaconhoodigaa
open Go.ChangeShapes Go.WideShapes Go.ChangeAt Go.RowKit Go.Joins
variable {H : Type} {enc : TypeId × Value → H} {w : World} {base : Nat} {spare : Nat → Bool} {held : Bool}

theorem array6L {α : Type} {cs : Array α} (h : cs.size = 6) : ∃ c0 c1 c2 c3 c4 c5, cs = #[c0, c1, c2, c3, c4, c5] := by
  obtain ⟨l⟩ := cs
  match l, h with
  | [c0, c1, c2, c3, c4, c5], _ => exact ⟨c0, c1, c2, c3, c4, c5, rfl⟩
/-- Three elements by value. -/
theorem open_two33 {r : Reach} {b0 : Nat} {v : Value} {d : DataW H} {p : List MemPlace} (hv : Value.okWide Try.prog w r b0 45 v) (h : DataW.Trod enc Try.prog w base spare held 45 v d p) :
    ∃ a1 a0 b1 b0 c1 c0 : Nat, v = .agg #[.int .u64 (a1 : Int), .int .u64 (a0 : Int), .int .u64 (b1 : Int), .int .u64 (b0 : Int), .int .u64 (c1 : Int), .int .u64 (c0 : Int)] ∧ a1 < 2 ^ 64 ∧ a0 < 2 ^ 64 ∧ b1 < 2 ^ 64 ∧ b0 < 2 ^ 64 ∧ c1 < 2 ^ 64 ∧ c0 < 2 ^ 64 := by
  obtain ⟨cs, rfl, hsz⟩ := okWide_struct Try.underlying45 hv
  obtain ⟨c0, c1, c2, c3, c4, c5, rfl⟩ := array6L (hsz.trans (by kernel_rfl))
  obtain ⟨fuel, hf⟩ := h
  obtain ⟨y0, y1, y2, n, hx, _, h0, h1, h2⟩ := Go.Deep.trod_struct3 Try.underlying45 hf
  have k2 : Try.prog.cellsOf 24 = 2 := by kernel_rfl
  simp [Value.cells, k2] at h0 h1 h2
  obtain ⟨a1, a0, rfl, rfl, ha1, ha0⟩ := elem_cells h0
  obtain ⟨b1, b0, rfl, rfl, hb1, hb0⟩ := elem_cells h1
  obtain ⟨d1, d0, rfl, rfl, hd1, hd0⟩ := elem_cells h2
  exact ⟨a1, a0, b1, b0, d1, d0, rfl, ha1, ha0, hb1, hb0, hd1, hd0⟩
end Go.Proofs.Ytakaconhoodigaa
