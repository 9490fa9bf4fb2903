/- Arguments that are elements, or three elements, opened: their values written out, with the bounds of their words. -/
import Derived.Test.YtccaobfhldfamaaRows
import Derived.Test.YtccaobfhldfamaaTwBl
import Derived.ProofKit
import Derived.OpenShut
import Derived.ShutString
import Derived.ChangeOld
import Derived.Lib.SmallJoins
import Derived.Test.YtccaobfhldfamaaPWvA
import Derived.Deep.SlicePairs
import Derived.Deep.Strs
import Derived.Deep.Slices
import Derived.Test.YtccaobfhldfamaaPWvN
namespace Go.Proofs.Ytccaobfhldfamaa
open Go.ChangeShapes Go.WideShapes Go.ChangeAt Go.RowKit Go.Joins

theorem own : ownKnob Try.prog.godebug = none := by kernel_rfl
theorem laidOut : laidOutB Try.prog = true := by kernel_rfl

theorem word_nat {n : Int} (h : (Lit.int .u64 n).wf = true) : ∃ m : Nat, n = (m : Int) ∧ m < 2 ^ 64 := by
  have h2 : 0 ≤ n ∧ n < 18446744073709551616 := by
    have := h
    simp [Lit.wf] at this
    have e1 : IntKind.u64.min = 0 := by decide
    have e2 : IntKind.u64.max = 18446744073709551615 := by decide
    rw [e1, e2] at this
    omega
  exact ⟨n.toNat, by omega, by omega⟩

variable {H : Type} {enc : TypeId × Value → H} {w : World} {base : Nat} {spare : Nat → Bool} {held : Bool}

theorem elem_cells {n : Nat} {c0 c1 : Value} {y : DataW H × List MemPlace} (h : DataW.trod enc Try.prog w base spare held n 44 [c0, c1] = some y) :
    ∃ a b : Nat, c0 = .int .u64 (a : Int) ∧ c1 = .int .u64 (b : Int) ∧ a < 2 ^ 64 ∧ b < 2 ^ 64 := by
  obtain ⟨y0, y1, m, hx, _, h0, h1⟩ := trod_struct2 Try.underlying44 h
  have k0 : Try.prog.cellsOf 42 = 1 := by kernel_rfl
  simp [k0] at h0 h1
  obtain ⟨a, e0, _, w0⟩ := DataW.trod_int Try.underlying42 h0
  obtain ⟨b, e1, _, w1⟩ := DataW.trod_int Try.underlying42 h1
  obtain ⟨a', rfl, ha⟩ := word_nat w0
  obtain ⟨b', rfl, hb⟩ := word_nat w1
  simp at e0 e1
  exact ⟨a', b', e0, e1, ha, hb⟩
set_option maxRecDepth 100000 in
/-- An element by value. -/
theorem open_elem {r : Reach} {b0 : Nat} {v : Value} {d : DataW H} {p : List MemPlace} (hv : Value.okWide Try.prog w r b0 44 v) (h : DataW.Trod enc Try.prog w base spare held 44 v d p) :
    ∃ a b : Nat, v = .agg #[.int .u64 (a : Int), .int .u64 (b : Int)] ∧ a < 2 ^ 64 ∧ b < 2 ^ 64 := by
  obtain ⟨cs, rfl, hsz⟩ := okWide_struct Try.underlying44 hv
  obtain ⟨c0, c1, rfl⟩ := array2 (hsz.trans (by kernel_rfl))
  obtain ⟨fuel, hf⟩ := h
  obtain ⟨a, b, rfl, rfl, ha, hb⟩ := elem_cells (y := (d, p)) (n := fuel) (c0 := c0) (c1 := c1) (by simpa [Value.cells] using hf)
  exact ⟨a, b, rfl, ha, hb⟩
end Go.Proofs.Ytccaobfhldfamaa

/- An argument that is a slice of elements, opened: a list of pairs of words, and where they lie. -/
namespace Go.Proofs.Ytccaobfhldfamaa
open Go.ChangeShapes Go.WideShapes Go.ChangeAt Go.RowKit Go.Joins
variable {H : Type} {enc : TypeId × Value → H} {w : World} {base : Nat} {spare : Nat → Bool} {held : Bool}

theorem word_val {n : Nat} {c : Value} {y : DataW H × List MemPlace} (h : DataW.trod enc Try.prog w base spare held n 42 [c] = some y) :
    c = .int .u64 (((intOf c).toNat : Nat) : Int) ∧ (intOf c).toNat < 2 ^ 64 := by
  obtain ⟨a, e0, _, w0⟩ := DataW.trod_int Try.underlying42 h
  obtain ⟨a', rfl, ha⟩ := word_nat w0
  simp at e0
  subst e0
  exact ⟨by simp [intOf], by simpa [intOf] using ha⟩
/-- A slice of elements. -/
theorem open_elems {a : Option Addr} {len cap : Nat} {d : DataW H} {p : List MemPlace} (h : DataW.Trod enc Try.prog w base spare held 23 (.slice a len cap) d p) :
    ∃ es : List (Nat × Nat), es.length = len ∧ len ≤ maxLen ∧ ltE es ∧ ERow w a es := by
  obtain ⟨fuel, hf⟩ := h
  rcases Go.Deep.open_slice_pairs Try.underlying23 Try.underlying44 (by kernel_rfl) rfl rfl (by kernel_rfl) (by kernel_rfl) hf with ⟨hcs, _⟩ | ⟨x, l, c, m, n, V0, V1, D0, D1, P0, P1, hcs, _, hl, hm, hmm, _, hcell⟩
  · simp [Value.cells] at hcs
    obtain ⟨rfl, rfl, rfl⟩ := hcs
    exact ⟨[], rfl, Nat.zero_le _, fun e he => by simp at he, ⟨fun i hi => by simp at hi⟩⟩
  · simp [Value.cells] at hcs
    obtain ⟨rfl, rfl, rfl⟩ := hcs
    have hle : len ≤ m := by rw [hmm]; split <;> omega
    have hget : ∀ i, i < len → ((List.range len).map fun i => ((intOf (V0 i)).toNat, (intOf (V1 i)).toNat)).getD i (0, 0) = ((intOf (V0 i)).toNat, (intOf (V1 i)).toNat) := fun i hi => by simp [List.getD, hi]
    refine ⟨(List.range len).map fun i => ((intOf (V0 i)).toNat, (intOf (V1 i)).toNat), by simp, by omega, ?_, ⟨fun i hi => ?_⟩⟩
    · intro e he
      obtain ⟨i, hi, rfl⟩ := List.mem_map.1 he
      have hi := List.mem_range.1 hi
      obtain ⟨_, _, t0, t1⟩ := hcell i (by omega)
      exact ⟨(word_val t0).2, (word_val t1).2⟩
    · have hi' : i < len := by simpa using hi
      obtain ⟨c0, c1, t0, t1⟩ := hcell i (by omega)
      obtain ⟨b, off, spot⟩ := x
      have hspot : spot = none := by simpa [Addr.add] using World.cell?_spot (hcell 0 (by omega)).1
      subst hspot
      have e0 : (⟨b, off, none⟩ : Addr).add (i * 2) = ⟨b, off + i * 2, none⟩ := by unfold Addr.add; split <;> simp_all
      have e1 : (⟨b, off, none⟩ : Addr).add (i * 2 + 1) = ⟨b, off + i * 2 + 1, none⟩ := by unfold Addr.add; split <;> simp_all [Nat.add_assoc]
      rw [e0] at c0
      rw [e1] at c1
      rw [hget i hi']
      refine ⟨b, off, rfl, ?_, ?_, ?_⟩
      · rcases Nat.lt_or_ge b w.heap.size with h2 | h2
        · exact h2
        · simp [World.cell?, Array.getElem?_eq_none h2] at c0
      · rw [c0]; exact congrArg some (word_val t0).1
      · rw [c1]; exact congrArg some (word_val t1).1
/-- A slice that leads nowhere has nothing. -/
theorem open_none {a : Option Addr} {len cap : Nat} {d : DataW H} {p : List MemPlace} (h : DataW.Trod enc Try.prog w base spare held 23 (.slice a len cap) d p) : a = none → len = 0 ∧ cap = 0 := by
  obtain ⟨fuel, hf⟩ := h
  rcases Go.Deep.open_slice_pairs Try.underlying23 Try.underlying44 (by kernel_rfl) rfl rfl (by kernel_rfl) (by kernel_rfl) hf with ⟨hcs, _⟩ | ⟨x, l, c, m, n, V0, V1, D0, D1, P0, P1, hcs, _⟩
  · simp [Value.cells] at hcs
    exact fun _ => ⟨hcs.2.1, hcs.2.2⟩
  · simp [Value.cells] at hcs
    intro h
    rw [h] at hcs
    simp at hcs
theorem open_cap {a : Option Addr} {len cap : Nat} {d : DataW H} {p : List MemPlace} (h : DataW.Trod enc Try.prog w base spare held 23 (.slice a len cap) d p) : len ≤ cap := by
  obtain ⟨fuel, hf⟩ := h
  rcases Go.Deep.open_slice_pairs Try.underlying23 Try.underlying44 (by kernel_rfl) rfl rfl (by kernel_rfl) (by kernel_rfl) hf with ⟨hcs, _⟩ | ⟨x, l, c, m, n, V0, V1, D0, D1, P0, P1, hcs, _, hl, _⟩
  · simp [Value.cells] at hcs
    omega
  · simp [Value.cells] at hcs
    obtain ⟨_, rfl, rfl⟩ := hcs
    exact hl
end Go.Proofs.Ytccaobfhldfamaa

/- Arguments that are a struct of two slices of elements, an array of two such slices, or an array of two ints, opened. -/
namespace Go.Proofs.Ytccaobfhldfamaa
open Go.ChangeShapes Go.WideShapes Go.ChangeAt Go.RowKit Go.Joins
variable {H : Type} {enc : TypeId × Value → H} {W : World}

theorem arrC2 {α : Type} {cs : Array α} (h : cs.size = 2) : ∃ c0 c1, cs = #[c0, c1] := by
  obtain ⟨l⟩ := cs
  match l, h with
  | [c0, c1], _ => exact ⟨c0, c1, rfl⟩
theorem elems_val {n : Nat} {c : Value} {y : DataW H × List MemPlace} (h : DataW.trod enc Try.prog W 0 (fun _ => true) true n 23 [c] = some y) :
    ∃ (a : Option Addr) (cap : Nat) (es : List (Nat × Nat)), c = .slice a es.length cap ∧ es.length ≤ maxLen ∧ ltE es ∧ ERow W a es ∧ (a = none → es.length = 0 ∧ cap = 0) ∧ es.length ≤ cap := by
  have hV : ∃ a' l' c', c = .slice a' l' c' := by
    rcases Go.Deep.open_slice Try.underlying23 h with ⟨e, _⟩ | ⟨a', l', c', _, _, _, _, e, _⟩
    · exact ⟨none, 0, 0, by simpa using e⟩
    · exact ⟨some a', l', c', by simpa using e⟩
  obtain ⟨a', l', c', rfl⟩ := hV
  have hT : DataW.Trod enc Try.prog W 0 (fun _ => true) true 23 (.slice a' l' c') y.1 y.2 := ⟨n, by simpa [Value.cells] using h⟩
  obtain ⟨es, rfl, h3, h4, h5⟩ := open_elems hT
  exact ⟨a', c', es, rfl, h3, h4, h5, open_none hT, open_cap hT⟩
end Go.Proofs.Ytccaobfhldfamaa

/- An argument that is a slice of slices of elements, opened: its rows, and where they and their elements lie. -/
namespace Go.Proofs.Ytccaobfhldfamaa
open Go.ChangeShapes Go.WideShapes Go.ChangeAt Go.RowKit Go.Joins
variable {H : Type} {enc : TypeId × Value → H} {w : World} {base : Nat} {spare : Nat → Bool} {held : Bool}

def sliceOf : Value → Option Addr × Nat × Nat
  | .slice a l c => (a, l, c)
  | _ => (none, 0, 0)
/-- Rows of elements. -/
theorem open_grid {a : Option Addr} {len cap : Nat} {d : DataW H} {p : List MemPlace} (h : DataW.Trod enc Try.prog w base spare held 22 (.slice a len cap) d p) :
    ∃ ls : List (Option Addr × Nat × Nat), ls.length = len ∧ Grid w a ls ∧ ∀ i, i < ls.length → ∃ es : List (Nat × Nat), es.length = (ls.getD i (none, 0, 0)).2.1 ∧ ltE es ∧ ERow w (ls.getD i (none, 0, 0)).1 es := by
  obtain ⟨fuel, hf⟩ := h
  rcases Go.Deep.open_slice1 Try.underlying22 (by kernel_rfl) hf with ⟨hcs, _⟩ | ⟨x, l, c, m, n, V, D, Pl, hcs, _, hl, hm, hmm, _, hcell⟩
  · simp [Value.cells] at hcs
    obtain ⟨rfl, rfl, rfl⟩ := hcs
    exact ⟨[], rfl, ⟨fun i hi => by simp at hi⟩, fun i hi => by simp at hi⟩
  · simp [Value.cells] at hcs
    obtain ⟨rfl, rfl, rfl⟩ := hcs
    have hle : len ≤ m := by rw [hmm]; split <;> omega
    have hV : ∀ i, i < len → ∃ a' l' c', V i = .slice a' l' c' := fun i hi => by
      rcases Go.Deep.open_slice Try.underlying23 (hcell i (by omega)).2 with ⟨e, _⟩ | ⟨a', l', c', _, _, _, _, e, _⟩
      · exact ⟨none, 0, 0, by simpa using e⟩
      · exact ⟨some a', l', c', by simpa using e⟩
    have hg : ∀ i, i < len → ((List.range len).map fun i => sliceOf (V i)).getD i (none, 0, 0) = sliceOf (V i) := fun i hi => by simp [List.getD, hi]
    refine ⟨(List.range len).map fun i => sliceOf (V i), by simp, ⟨fun i hi => ?_⟩, fun i hi => ?_⟩
    · have hi' : i < len := by simpa using hi
      obtain ⟨c0, t0⟩ := hcell i (by omega)
      obtain ⟨a', l', c', e⟩ := hV i hi'
      obtain ⟨b, off, spot⟩ := x
      have hspot : spot = none := by simpa [Addr.add] using World.cell?_spot (hcell 0 (by omega)).1
      subst hspot
      have ea : (⟨b, off, none⟩ : Addr).add i = ⟨b, off + i, none⟩ := by unfold Addr.add; split <;> simp_all
      rw [ea] at c0
      rw [hg i hi', e]
      refine ⟨b, off, rfl, ?_, ?_⟩
      · rcases Nat.lt_or_ge b w.heap.size with h2 | h2
        · exact h2
        · simp [World.cell?, Array.getElem?_eq_none h2] at c0
      · rw [c0, e]; rfl
    · have hi' : i < len := by simpa using hi
      obtain ⟨c0, t0⟩ := hcell i (by omega)
      obtain ⟨a', l', c', e⟩ := hV i hi'
      rw [e] at t0
      rw [hg i hi', e]
      obtain ⟨es, h1, _, h2, h3⟩ := open_elems (w := w) (enc := enc) (base := base) (spare := spare) (held := held) (a := a') (len := l') (cap := c') (d := D i) (p := Pl i) ⟨n, t0⟩
      exact ⟨es, h1, h2, h3⟩
end Go.Proofs.Ytccaobfhldfamaa

/- An argument that is elements to mix by and a place, opened. -/
namespace Go.Proofs.Ytccaobfhldfamaa
open Go.ChangeShapes Go.WideShapes Go.ChangeAt Go.RowKit Go.Joins
variable {H : Type} {enc : TypeId × Value → H} {W : World}

theorem arrBy2 {α : Type} {cs : Array α} (h : cs.size = 2) : ∃ c0 c1, cs = #[c0, c1] := by
  obtain ⟨l⟩ := cs
  match l, h with
  | [c0, c1], _ => exact ⟨c0, c1, rfl⟩
set_option maxRecDepth 100000 in
/-- Elements and an int by value. -/
theorem open_by {r : Reach} {b0 : Nat} {v : Value} {d : DataW H} {p : List MemPlace} (hv : Value.okWide Try.prog W r b0 25 v) (h : DataW.Trod enc Try.prog W 0 (fun _ => true) true 25 v d p) :
    ∃ (l : Int) (a : Option Addr) (cap : Nat) (es : List (Nat × Nat)), v = .agg #[.slice a es.length cap, .int .i64 l] ∧ ltE es ∧ ERow W a es := by
  obtain ⟨cs, rfl, hsz⟩ := okWide_struct Try.underlying25 hv
  obtain ⟨c0, c1, rfl⟩ := arrBy2 (hsz.trans (by kernel_rfl))
  obtain ⟨fuel, hf⟩ := h
  obtain ⟨y0, y1, n, hx, _, h0, h1⟩ := trod_struct2 Try.underlying25 hf
  have k1 : Try.prog.cellsOf 23 = 1 := by kernel_rfl
  have k2 : Try.prog.cellsOf 3 = 1 := by kernel_rfl
  simp [Value.cells, k1, k2] at h0 h1
  obtain ⟨i0, e0, _, _⟩ := DataW.trod_int Try.underlying3 h1
  simp at e0
  subst e0
  obtain ⟨z, zcap, es, rfl, _, q5, q6, _, _⟩ := elems_val h0
  exact ⟨i0, z, zcap, es, rfl, q5, q6⟩
end Go.Proofs.Ytccaobfhldfamaa
