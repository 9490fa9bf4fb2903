/- Arguments that are a struct of two slices of elements, an array of two such slices, or an array of two ints, opened. -/
import Derived.Test.YtccpbpajappckaaRowS
import Derived.Deep.Strs
import Derived.Deep.Slices
import Derived.Test.YtccpbpajappckaaRowE
import Derived.ChangeMaps5
import Derived.Lib.SmallJoins
import Derived.Test.YtccpbpajappckaaPOrA
import Derived.SliceStrings
namespace Go.Proofs.Ytccpbpajappckaa
open Go.ChangeShapes Go.WideShapes Go.ChangeAt Go.RowKit Go.Joins
variable {H : Type} {enc : TypeId × Value → H} {W : World}

theorem arrC2 {α : Type} {cs : Array α} (h : cs.size = 2) : ∃ c0 c1, cs = #[c0, c1] := by
  obtain ⟨l⟩ := cs
  match l, h with
  | [c0, c1], _ => exact ⟨c0, c1, rfl⟩
theorem elems_val {n : Nat} {c : Value} {y : DataW H × List MemPlace} (h : DataW.trod enc Try.prog W 0 (fun _ => true) true n 37 [c] = some y) :
    ∃ (a : Option Addr) (cap : Nat) (es : List (Nat × Nat)), c = .slice a es.length cap ∧ es.length ≤ maxLen ∧ ltE es ∧ ERow W a es ∧ (a = none → es.length = 0 ∧ cap = 0) ∧ es.length ≤ cap := by
  have hV : ∃ a' l' c', c = .slice a' l' c' := by
    rcases Go.Deep.open_slice Try.underlying37 h with ⟨e, _⟩ | ⟨a', l', c', _, _, _, _, e, _⟩
    · exact ⟨none, 0, 0, by simpa using e⟩
    · exact ⟨some a', l', c', by simpa using e⟩
  obtain ⟨a', l', c', rfl⟩ := hV
  have hT : DataW.Trod enc Try.prog W 0 (fun _ => true) true 37 (.slice a' l' c') y.1 y.2 := ⟨n, by simpa [Value.cells] using h⟩
  obtain ⟨es, rfl, h3, h4, h5⟩ := open_elems hT
  exact ⟨a', c', es, rfl, h3, h4, h5, open_none hT, open_cap hT⟩
end Go.Proofs.Ytccpbpajappckaa

/- An argument that is a slice of texts, opened (beside arguments that are elements). -/
namespace Go.Proofs.Ytccpbpajappckaa
open Go.ChangeShapes Go.WideShapes Go.ChangeAt Go.RowKit Go.Joins
variable {H : Type} {enc : TypeId × Value → H} {W : World}

/-- A slice of texts that came in is a list of texts in memory. -/
theorem open_strs {a : Option Addr} {len cap : Nat} {d : DataW H} {p : List MemPlace} (h : DataW.Trod enc Try.prog W 0 (fun _ => true) true 36 (.slice a len cap) d p) :
    ∃ ss : List ByteArray, ss.length = len ∧ ss.length ≤ maxLen ∧ (∀ s ∈ ss, s.size ≤ maxLen) ∧ StrRow W a ss := by
  obtain ⟨fuel, hf⟩ := h
  rcases open_strings Try.underlying36 Try.underlying9 (by kernel_rfl) hf with ⟨hcs, _⟩ | ⟨x, l, c, ss, hcs, _, hl, hm, hz, _, hcell, hws⟩
  · simp [Value.cells] at hcs
    obtain ⟨rfl, rfl, rfl⟩ := hcs
    exact ⟨[], rfl, Nat.zero_le _, by simp, .inl rfl⟩
  · simp [Value.cells] at hcs
    obtain ⟨rfl, rfl, rfl⟩ := hcs
    simp at hz
    refine ⟨ss.take len, by simp; omega, by simp; omega, fun s h => hws s (List.mem_of_mem_take h), ?_⟩
    by_cases h0 : len = 0
    · left; subst h0; simp
    · right
      obtain ⟨b, off, spot⟩ := x
      have h1 := hcell 0 (by omega)
      have hspot : spot = none := by simpa [Addr.add] using World.cell?_spot h1
      subst hspot
      have hlt : b < W.heap.size := by
        rcases Nat.lt_or_ge b W.heap.size with h2 | h2
        · exact h2
        · simp [Addr.add, World.cell?, Array.getElem?_eq_none h2] at h1
      refine ⟨b, off, rfl, hlt, fun i hi => ?_⟩
      have hi' : i < len := by simp at hi; omega
      have h2 := hcell i (by omega)
      rw [show (⟨b, off, none⟩ : Addr).add i = ⟨b, off + i, none⟩ by unfold Addr.add; split <;> simp_all] at h2
      rw [h2]
      simp [List.getD_eq_getElem?_getD, List.getElem?_take_of_lt hi']
end Go.Proofs.Ytccpbpajappckaa

/- An argument that is a level and elements, opened. -/
namespace Go.Proofs.Ytccpbpajappckaa
open Go.ChangeShapes Go.WideShapes Go.ChangeAt Go.RowKit Go.Joins
variable {H : Type} {enc : TypeId × Value → H} {W : World}

theorem arrJ2 {α : Type} {cs : Array α} (h : cs.size = 2) : ∃ c0 c1, cs = #[c0, c1] := by
  obtain ⟨l⟩ := cs
  match l, h with
  | [c0, c1], _ => exact ⟨c0, c1, rfl⟩
set_option maxRecDepth 100000 in
/-- An int and elements by value. -/
theorem open_lelems {r : Reach} {b0 : Nat} {v : Value} {d : DataW H} {p : List MemPlace} (hv : Value.okWide Try.prog W r b0 39 v) (h : DataW.Trod enc Try.prog W 0 (fun _ => true) true 39 v d p) :
    ∃ (l : Int) (a : Option Addr) (cap : Nat) (es : List (Nat × Nat)), v = .agg #[.int .i64 l, .slice a es.length cap] ∧ ltE es ∧ ERow W a es := by
  obtain ⟨cs, rfl, hsz⟩ := okWide_struct Try.underlying39 hv
  obtain ⟨c0, c1, rfl⟩ := arrJ2 (hsz.trans (by kernel_rfl))
  obtain ⟨fuel, hf⟩ := h
  obtain ⟨y0, y1, n, hx, _, h0, h1⟩ := trod_struct2 Try.underlying39 hf
  have k1 : Try.prog.cellsOf 3 = 1 := by kernel_rfl
  simp [Value.cells, k1] at h0 h1
  obtain ⟨i0, e0, _, _⟩ := DataW.trod_int Try.underlying3 h0
  simp at e0
  subst e0
  obtain ⟨z, zcap, es, rfl, _, q5, q6, _, _⟩ := elems_val h1
  exact ⟨i0, z, zcap, es, rfl, q5, q6⟩
end Go.Proofs.Ytccpbpajappckaa
