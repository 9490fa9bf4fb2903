/- An argument that is a struct of a slice of bools and two slices of elements, opened. -/
import Derived.Test.YtjdfbjdbfncofaaRowB
import Derived.Test.YtjdfbjdbfncofaaRowC
namespace Go.Proofs.Ytjdfbjdbfncofaa
open Go.ChangeShapes Go.WideShapes Go.ChangeAt Go.RowKit Go.Joins
variable {H : Type} {enc : TypeId × Value → H} {W : World}

theorem arrR3 {α : Type} {cs : Array α} (h : cs.size = 3) : ∃ c0 c1 c2, cs = #[c0, c1, c2] := by
  obtain ⟨l⟩ := cs
  match l, h with
  | [c0, c1, c2], _ => exact ⟨c0, c1, c2, rfl⟩
theorem bools_val {n : Nat} {c : Value} {y : DataW H × List MemPlace} (h : DataW.trod enc Try.prog W 0 (fun _ => true) true n 35 [c] = some y) :
    ∃ (a : Option Addr) (cap : Nat) (bs : List Bool), c = .slice a bs.length cap ∧ BRow W a bs := by
  have hV : ∃ a' l' c', c = .slice a' l' c' := by
    rcases Go.Deep.open_slice Try.underlying35 h with ⟨e, _⟩ | ⟨a', l', c', _, _, _, _, e, _⟩
    · exact ⟨none, 0, 0, by simpa using e⟩
    · exact ⟨some a', l', c', by simpa using e⟩
  obtain ⟨a', l', c', rfl⟩ := hV
  have hT : DataW.Trod enc Try.prog W 0 (fun _ => true) true 35 (.slice a' l' c') y.1 y.2 := ⟨n, by simpa [Value.cells] using h⟩
  obtain ⟨bs, rfl, h3⟩ := open_bools hT
  exact ⟨a', c', bs, rfl, h3⟩
set_option maxRecDepth 100000 in
/-- Bits, and a point's low and high part. -/
theorem open_case23 {r : Reach} {b0 : Nat} {v : Value} {d : DataW H} {p : List MemPlace} (hv : Value.okWide Try.prog W r b0 37 v) (h : DataW.Trod enc Try.prog W 0 (fun _ => true) true 37 v d p) :
    ∃ (a a2 a3 : Option Addr) (c c2 c3 : Nat) (bs : List Bool) (lo hi : List (Nat × Nat)), v = .agg #[.slice a bs.length c, .slice a2 lo.length c2, .slice a3 hi.length c3] ∧ BRow W a bs ∧ (ltE lo ∧ ERow W a2 lo ∧ (a2 = none → lo.length = 0)) ∧ ltE hi ∧ ERow W a3 hi ∧ (a3 = none → hi.length = 0) := by
  obtain ⟨cs, rfl, hsz⟩ := okWide_struct Try.underlying37 hv
  obtain ⟨c0, c1, c2, rfl⟩ := arrR3 (hsz.trans (by kernel_rfl))
  obtain ⟨fuel, hf⟩ := h
  obtain ⟨y0, y1, y2, n, hx, _, h0, h1, h2⟩ := Go.Deep.trod_struct3 Try.underlying37 hf
  have k1 : Try.prog.cellsOf 26 = 1 := by kernel_rfl
  have k2 : Try.prog.cellsOf 35 = 1 := by kernel_rfl
  simp [Value.cells, k1, k2] at h0 h1 h2
  obtain ⟨a, cap, bs, rfl, q2⟩ := bools_val h0
  obtain ⟨a2, cap2, lo, rfl, _, q5, q6, q7, _⟩ := elems_val h1
  obtain ⟨a3, cap3, hi, rfl, _, q8, q9, q10, _⟩ := elems_val h2
  exact ⟨a, a2, a3, cap, cap2, cap3, bs, lo, hi, rfl, q2, ⟨q5, q6, fun h => (q7 h).1⟩, q8, q9, fun h => (q10 h).1⟩
end Go.Proofs.Ytjdfbjdbfncofaa
