/- An argument that is a struct of a slice of bools and a slice of elements, opened. -/
import Derived.Test.YthfebbmmhjkglaaRowV
import Derived.Test.YthfebbmmhjkglaaRowC
namespace Go.Proofs.Ythfebbmmhjkglaa
open Go.ChangeShapes Go.WideShapes Go.ChangeAt Go.RowKit Go.Joins
variable {H : Type} {enc : TypeId × Value → H} {W : World}

theorem bow_val {n : Nat} {c : Value} {y : DataW H × List MemPlace} (h : DataW.trod enc Try.prog W 0 (fun _ => true) true n 24 [c] = some y) :
    ∃ (a : Option Addr) (cap : Nat) (bs : List Bool), c = .slice a bs.length cap ∧ Bow W a bs := by
  have hV : ∃ a' l' c', c = .slice a' l' c' := by
    rcases Go.Deep.open_slice Try.underlying24 h with ⟨e, _⟩ | ⟨a', l', c', _, _, _, _, e, _⟩
    · exact ⟨none, 0, 0, by simpa using e⟩
    · exact ⟨some a', l', c', by simpa using e⟩
  obtain ⟨a', l', c', rfl⟩ := hV
  have hT : DataW.Trod enc Try.prog W 0 (fun _ => true) true 24 (.slice a' l' c') y.1 y.2 := ⟨n, by simpa [Value.cells] using h⟩
  obtain ⟨bs, rfl, h3⟩ := open_bow hT
  exact ⟨a', c', bs, rfl, h3⟩
set_option maxRecDepth 100000 in
/-- Bits, and a point. -/
theorem open_word {r : Reach} {b0 : Nat} {v : Value} {d : DataW H} {p : List MemPlace} (hv : Value.okWide Try.prog W r b0 54 v) (h : DataW.Trod enc Try.prog W 0 (fun _ => true) true 54 v d p) :
    ∃ (a c : Option Addr) (cap cap2 : Nat) (bs : List Bool) (ps : List (Nat × Nat)), v = .agg #[.slice a bs.length cap, .slice c ps.length cap2] ∧ Bow W a bs ∧ ltE ps ∧ ERow W c ps := by
  obtain ⟨cs, rfl, hsz⟩ := okWide_struct Try.underlying54 hv
  obtain ⟨c0, c1, rfl⟩ := arrC2 (hsz.trans (by kernel_rfl))
  obtain ⟨fuel, hf⟩ := h
  obtain ⟨y0, y1, n, hx, _, h0, h1⟩ := trod_struct2 Try.underlying54 hf
  have k1 : Try.prog.cellsOf 36 = 1 := by kernel_rfl
  have k2 : Try.prog.cellsOf 24 = 1 := by kernel_rfl
  simp [Value.cells, k1, k2] at h0 h1
  obtain ⟨a, cap, bs, rfl, q2⟩ := bow_val h0
  obtain ⟨c, cap2, ps, rfl, _, q5, q6, _, _⟩ := elems_val h1
  exact ⟨a, c, cap, cap2, bs, ps, rfl, q2, q5, q6⟩
end Go.Proofs.Ythfebbmmhjkglaa
