/- An argument that is two 32-bit words in an array, opened. -/
import Derived.Test.YtdjndcgocmmmcaaRowE
namespace Go.Proofs.Ytdjndcgocmmmcaa
open Go.ChangeShapes Go.WideShapes Go.ChangeAt Go.RowKit Go.Joins
variable {H : Type} {enc : TypeId × Value → H} {w : World} {base : Nat} {spare : Nat → Bool} {held : Bool}

theorem word32_nat {n : Int} (h : (Lit.int .u32 n).wf = true) : ∃ m : Nat, n = (m : Int) ∧ m < 4294967296 := by
  have h2 : 0 ≤ n ∧ n < 4294967296 := by
    have := h
    simp [Lit.wf] at this
    have e1 : IntKind.u32.min = 0 := by decide
    have e2 : IntKind.u32.max = 4294967295 := by decide
    rw [e1, e2] at this
    omega
  exact ⟨n.toNat, by omega, by omega⟩
/-- Two words by value. -/
theorem open_pair {r : Reach} {b0 : Nat} {v : Value} {d : DataW H} {p : List MemPlace} (hv : Value.okWide Try.prog w r b0 61 v) (h : DataW.Trod enc Try.prog w base spare held 61 v d p) :
    ∃ a b : Nat, v = .agg #[.int .u32 (a : Int), .int .u32 (b : Int)] ∧ a < 4294967296 ∧ b < 4294967296 := by
  obtain ⟨cs, rfl, hsz⟩ : ∃ cs, v = .agg cs ∧ cs.size = Try.prog.cellsOf 61 := by
    simp only [Value.okWide, Try.underlying61] at hv
    obtain ⟨cs, h1, h2, _⟩ := hv
    exact ⟨cs, h1, h2⟩
  obtain ⟨c0, c1, rfl⟩ := array2 (hsz.trans (by kernel_rfl))
  obtain ⟨fuel, hf⟩ := h
  obtain ⟨xs, m, _, _, _, hl, hel⟩ := DataW.trod_array Try.underlying61 hf
  have k0 : Try.prog.cellsOf 60 = 1 := by kernel_rfl
  have h0 := hel 0 (by decide)
  have h1 := hel 1 (by decide)
  match xs, hl with
  | [y0, y1], _ =>
    simp [k0, Value.cells] at h0 h1
    obtain ⟨a, e0, _, w0⟩ := DataW.trod_int Try.underlying60 h0
    obtain ⟨b, e1, _, w1⟩ := DataW.trod_int Try.underlying60 h1
    obtain ⟨a', rfl, ha⟩ := word32_nat w0
    obtain ⟨b', rfl, hb⟩ := word32_nat w1
    simp at e0 e1
    subst e0 e1
    exact ⟨a', b', rfl, ha, hb⟩
end Go.Proofs.Ytdjndcgocmmmcaa
