/- An argument that is sizes, claims, a point and an element, opened. -/
import Derived.Test.YtefgkgmjhboobaaRowQ
import Derived.Test.YtefgkgmjhboobaaRowC
namespace Go.Proofs.Ytefgkgmjhboobaa
open Go.ChangeShapes Go.WideShapes Go.ChangeAt Go.RowKit Go.Joins
variable {H : Type} {enc : TypeId × Value → H} {W : World}

theorem arrM6 {α : Type} {cs : Array α} (h : cs.size = 6) : ∃ c0 c1 c2 c3 c4 c5, cs = #[c0, c1, c2, c3, c4, c5] := by
  obtain ⟨l⟩ := cs
  match l, h with
  | [c0, c1, c2, c3, c4, c5], _ => exact ⟨c0, c1, c2, c3, c4, c5, rfl⟩
theorem claims_val {n : Nat} {c : Value} {y : DataW H × List MemPlace} (h : DataW.trod enc Try.prog W 0 (fun _ => true) true n 22 [c] = some y) :
    ∃ (a : Option Addr) (cap : Nat) (os : List Stp), c = .slice a os.length cap ∧ (∀ o ∈ os, o.ok) ∧ ORow W a os := by
  have hV : ∃ a' l' c', c = .slice a' l' c' := by
    rcases Go.Deep.open_slice Try.underlying22 h with ⟨e, _⟩ | ⟨a', l', c', _, _, _, _, e, _⟩
    · exact ⟨none, 0, 0, by simpa using e⟩
    · exact ⟨some a', l', c', by simpa using e⟩
  obtain ⟨a', l', c', rfl⟩ := hV
  have hT : DataW.Trod enc Try.prog W 0 (fun _ => true) true 22 (.slice a' l' c') y.1 y.2 := ⟨n, by simpa [Value.cells] using h⟩
  obtain ⟨os, rfl, _, h2, h3⟩ := open_claims hT
  exact ⟨a', c', os, rfl, h2, h3⟩
set_option maxRecDepth 100000 in
/-- Two ints, claims, elements, and an element. -/
theorem open_case22 {r : Reach} {b0 : Nat} {v : Value} {d : DataW H} {p : List MemPlace} (hv : Value.okWide Try.prog W r b0 28 v) (h : DataW.Trod enc Try.prog W 0 (fun _ => true) true 28 v d p) :
    ∃ (cc ww : Int) (a z : Option Addr) (cap zcap : Nat) (os : List Stp) (es : List (Nat × Nat)) (b : Nat × Nat), v = .agg #[.int .i64 cc, .int .i64 ww, .slice a os.length cap, .slice z es.length zcap, .int .u64 (b.1 : Int), .int .u64 (b.2 : Int)] ∧ ((∀ o ∈ os, o.ok) ∧ ORow W a os) ∧ (ltE es ∧ ERow W z es) ∧ b.1 < 2 ^ 64 ∧ b.2 < 2 ^ 64 := by
  obtain ⟨cs, rfl, hsz⟩ := okWide_struct Try.underlying28 hv
  obtain ⟨c0, c1, c2, c3, c4, c5, rfl⟩ := arrM6 (hsz.trans (by kernel_rfl))
  obtain ⟨fuel, hf⟩ := h
  obtain ⟨xs, n, _, _, _, hlen, hel⟩ := DataW.trod_struct Try.underlying28 hf
  have k1 : Try.prog.cellsOf 3 = 1 := by kernel_rfl
  have k2 : Try.prog.cellsOf 22 = 1 := by kernel_rfl
  have k3 : Try.prog.cellsOf 23 = 1 := by kernel_rfl
  have k4 : Try.prog.cellsOf 26 = 2 := by kernel_rfl
  match xs, hlen with
  | [y0, y1, y2, y3, y4], _ =>
    have h0 := hel 0 _ rfl
    have h1 := hel 1 _ rfl
    have h2 := hel 2 _ rfl
    have h3 := hel 3 _ rfl
    have h4 := hel 4 _ rfl
    simp [Value.cells, k1, k2, k3, k4] at h0 h1 h2 h3 h4
    obtain ⟨i0, e0, _, _⟩ := DataW.trod_int Try.underlying3 h0
    obtain ⟨i1, e1, _, _⟩ := DataW.trod_int Try.underlying3 h1
    simp at e0 e1
    subst e0 e1
    obtain ⟨a, cap, os, rfl, q1, q2⟩ := claims_val h2
    obtain ⟨z, zcap, es, rfl, _, q5, q6, _, _⟩ := elems_val h3
    obtain ⟨p0, p1, rfl, rfl, l0, l1⟩ := elem_cells h4
    exact ⟨i0, i1, a, z, cap, zcap, os, es, (p0, p1), rfl, ⟨q1, q2⟩, ⟨q5, q6⟩, l0, l1⟩
end Go.Proofs.Ytefgkgmjhboobaa
