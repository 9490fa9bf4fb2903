/- An argument that is an array of two elements, opened. -/
import Derived.Test.YtcnbaoijgfaljaaRowC
namespace Go.Proofs.Ytcnbaoijgfaljaa
open Go.ChangeShapes Go.WideShapes Go.ChangeAt Go.RowKit Go.Joins
variable {H : Type} {enc : TypeId × Value → H} {W : World}

theorem arrD4 {α : Type} {cs : Array α} (h : cs.size = 4) : ∃ c0 c1 c2 c3, cs = #[c0, c1, c2, c3] := by
  obtain ⟨l⟩ := cs
  match l, h with
  | [c0, c1, c2, c3], _ => exact ⟨c0, c1, c2, c3, rfl⟩
set_option maxRecDepth 100000 in
/-- Two elements by value. -/
theorem open_pairE {r : Reach} {b0 : Nat} {v : Value} {d : DataW H} {p : List MemPlace} {base : Nat} {spare : Nat → Bool} {held : Bool} (hv : Value.okWide Try.prog W r b0 52 v) (h : DataW.Trod enc Try.prog W base spare held 52 v d p) :
    ∃ x y : Nat × Nat, v = .agg #[.int .u64 (x.1 : Int), .int .u64 (x.2 : Int), .int .u64 (y.1 : Int), .int .u64 (y.2 : Int)] ∧ (x.1 < 2 ^ 64 ∧ x.2 < 2 ^ 64) ∧ (y.1 < 2 ^ 64 ∧ y.2 < 2 ^ 64) := by
  obtain ⟨cs, rfl, hsz⟩ : ∃ cs, v = .agg cs ∧ cs.size = Try.prog.cellsOf 52 := by
    simp only [Value.okWide, Try.underlying52] at hv
    obtain ⟨cs, h1, h2, _⟩ := hv
    exact ⟨cs, h1, h2⟩
  obtain ⟨c0, c1, c2, c3, rfl⟩ := arrD4 (hsz.trans (by kernel_rfl))
  obtain ⟨fuel, hf⟩ := h
  obtain ⟨xs, m, _, _, _, hl, hel⟩ := DataW.trod_array Try.underlying52 hf
  have k0 : Try.prog.cellsOf 25 = 2 := by kernel_rfl
  have h0 := hel 0 (by decide)
  have h1 := hel 1 (by decide)
  match xs, hl with
  | [y0, y1], _ =>
    simp [k0, Value.cells] at h0 h1
    obtain ⟨a1, a0, rfl, rfl, ha1, ha0⟩ := elem_cells h0
    obtain ⟨b1, b0, rfl, rfl, hb1, hb0⟩ := elem_cells h1
    exact ⟨(a1, a0), (b1, b0), rfl, ⟨ha1, ha0⟩, hb1, hb0⟩
end Go.Proofs.Ytcnbaoijgfaljaa
