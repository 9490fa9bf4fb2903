/- An argument that is a struct of two points, opened. -/
import Derived.Test.YthfebbmmhjkglaaRowV
import Derived.Test.YthfebbmmhjkglaaRowC
namespace Go.Proofs.Ythfebbmmhjkglaa
open Go.ChangeShapes Go.WideShapes Go.ChangeAt Go.RowKit Go.Joins
variable {H : Type} {enc : TypeId × Value → H} {W : World}

set_option maxRecDepth 100000 in
theorem open_points {r : Reach} {b0 : Nat} {v : Value} {d : DataW H} {p : List MemPlace} (hv : Value.okWide Try.prog W r b0 38 v) (h : DataW.Trod enc Try.prog W 0 (fun _ => true) true 38 v d p) :
    ∃ (a c : Option Addr) (cap cap2 : Nat) (rs ps : List (Nat × Nat)), v = .agg #[.slice a rs.length cap, .slice c ps.length cap2] ∧ (ltE rs ∧ ERow W a rs) ∧ ltE ps ∧ ERow W c ps := by
  obtain ⟨cs, rfl, hsz⟩ := okWide_struct Try.underlying38 hv
  obtain ⟨c0, c1, rfl⟩ := arrC2 (hsz.trans (by kernel_rfl))
  obtain ⟨fuel, hf⟩ := h
  obtain ⟨y0, y1, n, hx, _, h0, h1⟩ := trod_struct2 Try.underlying38 hf
  have k1 : Try.prog.cellsOf 36 = 1 := by kernel_rfl
  simp [Value.cells, k1] at h0 h1
  obtain ⟨a, cap, rs, rfl, _, q1, q2, q3, q4⟩ := elems_val h0
  obtain ⟨c, cap2, ps, rfl, _, q5, q6, q7, q8⟩ := elems_val h1
  exact ⟨a, c, cap, cap2, rs, ps, rfl, ⟨q1, q2⟩, q5, q6⟩
end Go.Proofs.Ythfebbmmhjkglaa
