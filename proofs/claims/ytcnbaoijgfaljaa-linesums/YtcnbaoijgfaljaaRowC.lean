/- Arguments that are a struct of two slices of elements, an array of two such slices, or an array of two ints, opened. -/
import Derived.Test.YtcnbaoijgfaljaaRowS
import Derived.Deep.Strs
import Derived.Deep.Slices
namespace Go.Proofs.Ytcnbaoijgfaljaa
open Go.ChangeShapes Go.WideShapes Go.ChangeAt Go.RowKit Go.Joins
variable {H : Type} {enc : TypeId × Value → H} {W : World}

theorem arrC2 {α : Type} {cs : Array α} (h : cs.size = 2) : ∃ c0 c1, cs = #[c0, c1] := by
  obtain ⟨l⟩ := cs
  match l, h with
  | [c0, c1], _ => exact ⟨c0, c1, rfl⟩
theorem elems_val {n : Nat} {c : Value} {y : DataW H × List MemPlace} (h : DataW.trod enc Try.prog W 0 (fun _ => true) true n 22 [c] = some y) :
    ∃ (a : Option Addr) (cap : Nat) (es : List (Nat × Nat)), c = .slice a es.length cap ∧ es.length ≤ maxLen ∧ ltE es ∧ ERow W a es ∧ (a = none → es.length = 0 ∧ cap = 0) ∧ es.length ≤ cap := by
  have hV : ∃ a' l' c', c = .slice a' l' c' := by
    rcases Go.Deep.open_slice Try.underlying22 h with ⟨e, _⟩ | ⟨a', l', c', _, _, _, _, e, _⟩
    · exact ⟨none, 0, 0, by simpa using e⟩
    · exact ⟨some a', l', c', by simpa using e⟩
  obtain ⟨a', l', c', rfl⟩ := hV
  have hT : DataW.Trod enc Try.prog W 0 (fun _ => true) true 22 (.slice a' l' c') y.1 y.2 := ⟨n, by simpa [Value.cells] using h⟩
  obtain ⟨es, rfl, h3, h4, h5⟩ := open_elems hT
  exact ⟨a', c', es, rfl, h3, h4, h5, open_none hT, open_cap hT⟩
set_option maxRecDepth 100000 in
/-- What a table is bound to, and a point. -/
theorem open_bound {r : Reach} {b0 : Nat} {v : Value} {d : DataW H} {p : List MemPlace} (hv : Value.okWide Try.prog W r b0 57 v) (h : DataW.Trod enc Try.prog W 0 (fun _ => true) true 57 v d p) :
    ∃ (a c : Option Addr) (cap cap2 : Nat) (rs ps : List (Nat × Nat)), v = .agg #[.slice a rs.length cap, .slice c ps.length cap2] ∧ (ltE rs ∧ ERow W a rs ∧ (a = none → rs.length = 0 ∧ cap = 0) ∧ rs.length ≤ cap) ∧ (ltE ps ∧ ERow W c ps ∧ (c = none → ps.length = 0 ∧ cap2 = 0) ∧ ps.length ≤ cap2) := by
  obtain ⟨cs, rfl, hsz⟩ := okWide_struct Try.underlying57 hv
  obtain ⟨c0, c1, rfl⟩ := arrC2 (hsz.trans (by kernel_rfl))
  obtain ⟨fuel, hf⟩ := h
  obtain ⟨y0, y1, n, hx, _, h0, h1⟩ := trod_struct2 Try.underlying57 hf
  have k1 : Try.prog.cellsOf 22 = 1 := by kernel_rfl
  simp [Value.cells, k1] at h0 h1
  obtain ⟨a, cap, rs, rfl, _, q1, q2, q3, q4⟩ := elems_val h0
  obtain ⟨c, cap2, ps, rfl, _, q5, q6, q7, q8⟩ := elems_val h1
  exact ⟨a, c, cap, cap2, rs, ps, rfl, ⟨q1, q2, q3, q4⟩, q5, q6, q7, q8⟩
set_option maxRecDepth 100000 in
/-- Two tables. -/
theorem open_twoE {r : Reach} {b0 : Nat} {v : Value} {d : DataW H} {p : List MemPlace} (hv : Value.okWide Try.prog W r b0 51 v) (h : DataW.Trod enc Try.prog W 0 (fun _ => true) true 51 v d p) :
    ∃ (a c : Option Addr) (cap cap2 : Nat) (rs ps : List (Nat × Nat)), v = .agg #[.slice a rs.length cap, .slice c ps.length cap2] ∧ (ltE rs ∧ ERow W a rs ∧ (a = none → rs.length = 0 ∧ cap = 0) ∧ rs.length ≤ cap) ∧ (ltE ps ∧ ERow W c ps ∧ (c = none → ps.length = 0 ∧ cap2 = 0) ∧ ps.length ≤ cap2) := by
  obtain ⟨cs, rfl, hsz⟩ : ∃ cs, v = .agg cs ∧ cs.size = Try.prog.cellsOf 51 := by
    simp only [Value.okWide, Try.underlying51] at hv
    obtain ⟨cs, h1, h2, _⟩ := hv
    exact ⟨cs, h1, h2⟩
  obtain ⟨c0, c1, rfl⟩ := arrC2 (hsz.trans (by kernel_rfl))
  obtain ⟨fuel, hf⟩ := h
  obtain ⟨xs, m, _, _, _, hl, hel⟩ := DataW.trod_array Try.underlying51 hf
  have k0 : Try.prog.cellsOf 22 = 1 := by kernel_rfl
  have h0 := hel 0 (by decide)
  have h1 := hel 1 (by decide)
  match xs, hl with
  | [y0, y1], _ =>
    simp [k0, Value.cells] at h0 h1
    obtain ⟨a, cap, rs, rfl, _, q1, q2, q3, q4⟩ := elems_val h0
    obtain ⟨c, cap2, ps, rfl, _, q5, q6, q7, q8⟩ := elems_val h1
    exact ⟨a, c, cap, cap2, rs, ps, rfl, ⟨q1, q2, q3, q4⟩, q5, q6, q7, q8⟩
end Go.Proofs.Ytcnbaoijgfaljaa
