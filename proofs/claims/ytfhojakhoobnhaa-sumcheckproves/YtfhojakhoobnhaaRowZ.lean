/- Arguments that are a case of layer 20, or a strategy, opened. -/
import Derived.Test.YtfhojakhoobnhaaPRowY
namespace Go.Proofs.Ytfhojakhoobnhaa
open Go.ChangeShapes Go.WideShapes Go.ChangeAt Go.RowKit Go.Joins
open Sc
variable {H : Type} {enc : TypeId × Value → H} {W : World}

theorem ops_val {n : Nat} {c : Value} {y : DataW H × List MemPlace} (h : DataW.trod enc Try.prog W 0 (fun _ => true) true n 43 [c] = some y) :
    ∃ (a : Option Addr) (cap : Nat) (os : List Stp), c = .slice a os.length cap ∧ (∀ o ∈ os, o.ok) ∧ ORow W a os := by
  have hV : ∃ a' l' c', c = .slice a' l' c' := by
    rcases Go.Deep.open_slice Try.underlying43 h with ⟨e, _⟩ | ⟨a', l', c', _, _, _, _, e, _⟩
    · exact ⟨none, 0, 0, by simpa using e⟩
    · exact ⟨some a', l', c', by simpa using e⟩
  obtain ⟨a', l', c', rfl⟩ := hV
  have hT : DataW.Trod enc Try.prog W 0 (fun _ => true) true 43 (.slice a' l' c') y.1 y.2 := ⟨n, by simpa [Value.cells] using h⟩
  obtain ⟨os, rfl, _, h3, h4⟩ := open_ops hT
  exact ⟨a', c', os, rfl, h3, h4⟩
set_option maxRecDepth 100000 in
/-- An expression, and tables. -/
theorem open_case20 {r : Reach} {b0 : Nat} {v : Value} {d : DataW H} {p : List MemPlace} (hv : Value.okWide Try.prog W r b0 45 v) (h : DataW.Trod enc Try.prog W 0 (fun _ => true) true 45 v d p) :
    ∃ (sa a : Option Addr) (scap cap : Nat) (os : List Stp) (ts : List (List (Nat × Nat))), v = .agg #[.slice sa os.length scap, .slice a ts.length cap] ∧ (∀ o ∈ os, o.ok) ∧ ORow W sa os ∧ ltT ts ∧ TRowC W a ts := by
  obtain ⟨cs, rfl, hsz⟩ := okWide_struct Try.underlying45 hv
  obtain ⟨c0, c1, rfl⟩ := arrC2 (hsz.trans (by kernel_rfl))
  obtain ⟨fuel, hf⟩ := h
  obtain ⟨y0, y1, n, hx, _, h0, h1⟩ := trod_struct2 Try.underlying45 hf
  have k1 : Try.prog.cellsOf 43 = 1 := by kernel_rfl
  have k2 : Try.prog.cellsOf 25 = 1 := by kernel_rfl
  simp [Value.cells, k1, k2] at h0 h1
  obtain ⟨sa, scap, os, rfl, q1, q2⟩ := ops_val h0
  obtain ⟨a, cap, ts, rfl, q3, q4⟩ := tabs_val h1
  exact ⟨sa, a, scap, cap, os, ts, rfl, q1, q2, q3, q4⟩
set_option maxRecDepth 100000 in
/-- A claim, a first round's values, and a second one's for each first element. -/
theorem open_strat {r : Reach} {b0 : Nat} {v : Value} {d : DataW H} {p : List MemPlace} (hv : Value.okWide Try.prog W r b0 62 v) (h : DataW.Trod enc Try.prog W 0 (fun _ => true) true 62 v d p) :
    ∃ (c : Nat × Nat) (fa a : Option Addr) (fcap cap : Nat) (es : List (Nat × Nat)) (ts : List (List (Nat × Nat))), v = .agg #[.int .u64 (c.1 : Int), .int .u64 (c.2 : Int), .slice fa es.length fcap, .slice a ts.length cap] ∧ Cb.lt2 c ∧ ltE es ∧ ERow W fa es ∧ es.length ≤ fcap ∧ ltT ts ∧ TRowC W a ts := by
  obtain ⟨cs, rfl, hsz⟩ := okWide_struct Try.underlying62 hv
  obtain ⟨c0, c1, c2, c3, rfl⟩ := arrY4 (hsz.trans (by kernel_rfl))
  obtain ⟨fuel, hf⟩ := h
  obtain ⟨y0, y1, y2, n, hx, _, h0, h1, h2⟩ := Go.Deep.trod_struct3 Try.underlying62 hf
  have k0 : Try.prog.cellsOf 24 = 2 := by kernel_rfl
  have k1 : Try.prog.cellsOf 25 = 1 := by kernel_rfl
  have k2 : Try.prog.cellsOf 26 = 1 := by kernel_rfl
  simp [Value.cells, k0, k1, k2] at h0 h1 h2
  obtain ⟨a1, a0, rfl, rfl, ha1, ha0⟩ := elem_cells h0
  obtain ⟨fa, fcap, es, rfl, _, q5, q6, _, q7⟩ := elems_val h1
  obtain ⟨a, cap, ts, rfl, q1, q2⟩ := tabs_val h2
  exact ⟨(a1, a0), fa, a, fcap, cap, es, ts, rfl, ⟨ha1, ha0⟩, q5, q6, q7, q1, q2⟩
end Go.Proofs.Ytfhojakhoobnhaa
