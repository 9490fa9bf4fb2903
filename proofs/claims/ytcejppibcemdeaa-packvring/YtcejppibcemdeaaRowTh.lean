/- An argument that is three lists of elements, opened. -/
import Derived.Test.YtcejppibcemdeaaRowS
import Derived.Deep.Strs
import Derived.Lib.SmallJoins
import Derived.OpenShut
import Derived.Deep.Slices
namespace Go.Proofs.Ytcejppibcemdeaa
open Go.ChangeShapes Go.WideShapes Go.ChangeAt Go.RowKit Go.Joins
variable {H : Type} {enc : TypeId × Value → H} {W : World}

theorem arrTh3 {α : Type} {cs : Array α} (h : cs.size = 3) : ∃ c0 c1 c2, cs = #[c0, c1, c2] := by
  obtain ⟨l⟩ := cs
  match l, h with
  | [c0, c1, c2], _ => exact ⟨c0, c1, c2, rfl⟩
theorem elems_valT {n : Nat} {c : Value} {y : DataW H × List MemPlace} (h : DataW.trod enc Try.prog W 0 (fun _ => true) true n 25 [c] = some y) :
    ∃ (a : Option Addr) (cap : Nat) (rs : List (Nat × Nat)), c = .slice a rs.length cap ∧ ltE rs ∧ ERow W a rs ∧ rs.length ≤ cap := by
  have hV : ∃ a' l' c', c = .slice a' l' c' := by
    rcases Go.Deep.open_slice Try.underlying25 h with ⟨e, _⟩ | ⟨a', l', c', _, _, _, _, e, _⟩
    · exact ⟨none, 0, 0, by simpa using e⟩
    · exact ⟨some a', l', c', by simpa using e⟩
  obtain ⟨a', l', c', rfl⟩ := hV
  have hT : DataW.Trod enc Try.prog W 0 (fun _ => true) true 25 (.slice a' l' c') y.1 y.2 := ⟨n, by simpa [Value.cells] using h⟩
  obtain ⟨es, rfl, _, h3, h4⟩ := open_elems hT
  exact ⟨a', c', es, rfl, h3, h4, open_cap hT⟩
set_option maxRecDepth 100000 in
/-- Three lists. -/
theorem open_threeE {r : Reach} {b0 : Nat} {v : Value} {d : DataW H} {p : List MemPlace} (hv : Value.okWide Try.prog W r b0 54 v) (h : DataW.Trod enc Try.prog W 0 (fun _ => true) true 54 v d p) :
    ∃ (a b c : Option Addr) (ca cb cc : Nat) (A B C : List (Nat × Nat)), v = .agg #[.slice a A.length ca, .slice b B.length cb, .slice c C.length cc] ∧ (ltE A ∧ ERow W a A ∧ A.length ≤ ca) ∧ (ltE B ∧ ERow W b B ∧ B.length ≤ cb) ∧ (ltE C ∧ ERow W c C ∧ C.length ≤ cc) := by
  obtain ⟨cs, rfl, hsz⟩ : ∃ cs, v = .agg cs ∧ cs.size = Try.prog.cellsOf 54 := by
    simp only [Value.okWide, Try.underlying54] at hv
    obtain ⟨cs, h1, h2, _⟩ := hv
    exact ⟨cs, h1, h2⟩
  obtain ⟨c0, c1, c2, rfl⟩ := arrTh3 (hsz.trans (by kernel_rfl))
  obtain ⟨fuel, hf⟩ := h
  obtain ⟨xs, m, _, _, _, hl, hel⟩ := DataW.trod_array Try.underlying54 hf
  have k0 : Try.prog.cellsOf 25 = 1 := by kernel_rfl
  have h0 := hel 0 (by decide)
  have h1 := hel 1 (by decide)
  have h2 := hel 2 (by decide)
  match xs, hl with
  | [y0, y1, y2], _ =>
    simp [k0, Value.cells] at h0 h1 h2
    obtain ⟨a, ca, A, rfl, q1, q2, q3⟩ := elems_valT h0
    obtain ⟨b, cb, B, rfl, q4, q5, q6⟩ := elems_valT h1
    obtain ⟨c, cc, C, rfl, q7, q8, q9⟩ := elems_valT h2
    exact ⟨a, b, c, ca, cb, cc, A, B, C, rfl, ⟨q1, q2, q3⟩, ⟨q4, q5, q6⟩, q7, q8, q9⟩
end Go.Proofs.Ytcejppibcemdeaa
