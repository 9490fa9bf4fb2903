/- An argument that is a slice of calls, opened; the walk of OctetReads whole. -/
import Derived.Test.YtccpbpajappckaaRowE
import Derived.ChangeMaps5
import Derived.Lib.SmallJoins
import Derived.Deep.Slices
import Derived.Test.YtccpbpajappckaaOsK
namespace Go.Proofs.Ytccpbpajappckaa
open Go.ChangeShapes Go.WideShapes Go.ChangeAt Go.RowKit Go.Joins
variable {H : Type} {enc : TypeId × Value → H} {w : World} {base : Nat} {spare : Nat → Bool} {held : Bool}

set_option maxRecDepth 100000 in
/-- A slice of calls. -/
theorem open_calls {a : Option Addr} {len cap : Nat} {d : DataW H} {p : List MemPlace} (h : DataW.Trod enc Try.prog w base spare held 22 (.slice a len cap) d p) : CRow w a len := by
  obtain ⟨fuel, hf⟩ := h
  rcases Go.Deep.open_slice Try.underlying22 hf with ⟨hcs, _⟩ | ⟨x, l, c, m, n, D, Pl, hcs, _, hl, hm, hmm, _, hx⟩
  · simp [Value.cells] at hcs
    obtain ⟨rfl, rfl, rfl⟩ := hcs
    intro i hi
    exact absurd hi (Nat.not_lt_zero _)
  · simp [Value.cells] at hcs
    obtain ⟨rfl, rfl, rfl⟩ := hcs
    have hle : len ≤ m := by rw [hmm]; split <;> omega
    have ce : Try.prog.cellsOf 31 = 4 := by kernel_rfl
    have k1 : Try.prog.cellsOf 3 = 1 := by kernel_rfl
    intro i hi
    obtain ⟨b, off, spot⟩ := x
    obtain ⟨cs0, z1, _⟩ := hx 0 (by omega)
    rw [ce] at z1
    obtain ⟨_, z2, z3⟩ := World.cells?_some z1
    have z4 := z3 0 (by omega)
    rw [List.getElem?_eq_getElem (by omega)] at z4
    have hspot : spot = none := by simpa [Addr.add] using World.cell?_spot z4
    subst hspot
    clear z1 z2 z3 z4
    obtain ⟨cs', h1, h2⟩ := hx i (by omega)
    rw [ce] at h1
    obtain ⟨_, hlen, hcell⟩ := World.cells?_some h1
    obtain ⟨y0, y1, y2, y3, n', _, _, g0, g1, g2, g3⟩ := trod_struct4 Try.underlying31 h2
    match cs', hlen with
    | [v0, v1, v2, v3], _ =>
      simp [k1] at g0 g1 g2 g3
      obtain ⟨i0, e0, _, _⟩ := DataW.trod_int Try.underlying3 g0
      obtain ⟨i1, e1, _, _⟩ := DataW.trod_int Try.underlying3 g1
      obtain ⟨i2, e2, _, _⟩ := DataW.trod_int Try.underlying3 g2
      obtain ⟨i3, e3, _, _⟩ := DataW.trod_int Try.underlying3 g3
      simp at e0 e1 e2 e3
      subst e0 e1 e2 e3
      have q0 := hcell 0 (by omega)
      have q1 := hcell 1 (by omega)
      have q2 := hcell 2 (by omega)
      have q3 := hcell 3 (by omega)
      rw [Go.Deep.add_add] at q0 q1 q2 q3
      have e : ∀ j, (⟨b, off, none⟩ : Addr).add (i * 4 + j) = ⟨b, off + i * 4 + j, none⟩ := fun j => by unfold Addr.add; split <;> simp_all [Nat.add_assoc]
      rw [e] at q0 q1 q2 q3
      exact ⟨b, off, i0, i1, i2, i3, rfl, by simpa using q0, by simpa using q1, by simpa using q2, by simpa using q3⟩
/-- The law. -/
theorem os_all (s : ByteArray) (a : Option Addr) (n cap : Nat) (W : World) (hr : CRow W a n) : Calls Try.prog 3 #[.string s, .slice a n cap] W fun e w' => e = .returned (.bool true) ∧ Below W.heap.size W w' := by
  by_cases h3 : 3000 < s.size
  · exact os_long s a n cap h3 W
  · exact os_any s a n cap (by omega) W hr
end Go.Proofs.Ytccpbpajappckaa
