/- Arguments that are elements, or three elements, opened: their values written out, with the bounds of their words. -/
import Derived.Test.YtejoombhcnldmaaRows
import Derived.Test.YtejoombhcnldmaaTwBl
import Derived.ProofKit
import Derived.OpenShut
import Derived.ShutString
import Derived.ChangeOld
import Derived.Lib.SmallJoins
import Derived.Test.YtejoombhcnldmaaPSlA
import Derived.Deep.SlicePairs
import Derived.Test.YtejoombhcnldmaaPTuA
import Derived.Deep.Slices
import Derived.Deep.Strs
namespace Go.Proofs.Ytejoombhcnldmaa
open Go.ChangeShapes Go.WideShapes Go.ChangeAt Go.RowKit Go.Joins

theorem own : ownKnob Try.prog.godebug = none := by kernel_rfl
theorem laidOut : laidOutB Try.prog = true := by kernel_rfl

theorem word_nat {n : Int} (h : (Lit.int .u64 n).wf = true) : ∃ m : Nat, n = (m : Int) ∧ m < 2 ^ 64 := by
  have h2 : 0 ≤ n ∧ n < 18446744073709551616 := by
    have := h
    simp [Lit.wf] at this
    have e1 : IntKind.u64.min = 0 := by decide
    have e2 : IntKind.u64.max = 18446744073709551615 := by decide
    rw [e1, e2] at this
    omega
  exact ⟨n.toNat, by omega, by omega⟩

variable {H : Type} {enc : TypeId × Value → H} {w : World} {base : Nat} {spare : Nat → Bool} {held : Bool}

theorem elem_cells {n : Nat} {c0 c1 : Value} {y : DataW H × List MemPlace} (h : DataW.trod enc Try.prog w base spare held n 26 [c0, c1] = some y) :
    ∃ a b : Nat, c0 = .int .u64 (a : Int) ∧ c1 = .int .u64 (b : Int) ∧ a < 2 ^ 64 ∧ b < 2 ^ 64 := by
  obtain ⟨y0, y1, m, hx, _, h0, h1⟩ := trod_struct2 Try.underlying26 h
  have k0 : Try.prog.cellsOf 24 = 1 := by kernel_rfl
  simp [k0] at h0 h1
  obtain ⟨a, e0, _, w0⟩ := DataW.trod_int Try.underlying24 h0
  obtain ⟨b, e1, _, w1⟩ := DataW.trod_int Try.underlying24 h1
  obtain ⟨a', rfl, ha⟩ := word_nat w0
  obtain ⟨b', rfl, hb⟩ := word_nat w1
  simp at e0 e1
  exact ⟨a', b', e0, e1, ha, hb⟩
set_option maxRecDepth 100000 in
/-- An element by value. -/
theorem open_elem {r : Reach} {b0 : Nat} {v : Value} {d : DataW H} {p : List MemPlace} (hv : Value.okWide Try.prog w r b0 26 v) (h : DataW.Trod enc Try.prog w base spare held 26 v d p) :
    ∃ a b : Nat, v = .agg #[.int .u64 (a : Int), .int .u64 (b : Int)] ∧ a < 2 ^ 64 ∧ b < 2 ^ 64 := by
  obtain ⟨cs, rfl, hsz⟩ := okWide_struct Try.underlying26 hv
  obtain ⟨c0, c1, rfl⟩ := array2 (hsz.trans (by kernel_rfl))
  obtain ⟨fuel, hf⟩ := h
  obtain ⟨a, b, rfl, rfl, ha, hb⟩ := elem_cells (y := (d, p)) (n := fuel) (c0 := c0) (c1 := c1) (by simpa [Value.cells] using hf)
  exact ⟨a, b, rfl, ha, hb⟩
end Go.Proofs.Ytejoombhcnldmaa

/- An argument that is a slice of elements, opened: a list of pairs of words, and where they lie. -/
namespace Go.Proofs.Ytejoombhcnldmaa
open Go.ChangeShapes Go.WideShapes Go.ChangeAt Go.RowKit Go.Joins
variable {H : Type} {enc : TypeId × Value → H} {w : World} {base : Nat} {spare : Nat → Bool} {held : Bool}

theorem word_val {n : Nat} {c : Value} {y : DataW H × List MemPlace} (h : DataW.trod enc Try.prog w base spare held n 24 [c] = some y) :
    c = .int .u64 (((intOf c).toNat : Nat) : Int) ∧ (intOf c).toNat < 2 ^ 64 := by
  obtain ⟨a, e0, _, w0⟩ := DataW.trod_int Try.underlying24 h
  obtain ⟨a', rfl, ha⟩ := word_nat w0
  simp at e0
  subst e0
  exact ⟨by simp [intOf], by simpa [intOf] using ha⟩
/-- A slice of elements. -/
theorem open_elems {a : Option Addr} {len cap : Nat} {d : DataW H} {p : List MemPlace} (h : DataW.Trod enc Try.prog w base spare held 23 (.slice a len cap) d p) :
    ∃ es : List (Nat × Nat), es.length = len ∧ len ≤ maxLen ∧ ltE es ∧ ERow w a es := by
  obtain ⟨fuel, hf⟩ := h
  rcases Go.Deep.open_slice_pairs Try.underlying23 Try.underlying26 (by kernel_rfl) rfl rfl (by kernel_rfl) (by kernel_rfl) hf with ⟨hcs, _⟩ | ⟨x, l, c, m, n, V0, V1, D0, D1, P0, P1, hcs, _, hl, hm, hmm, _, hcell⟩
  · simp [Value.cells] at hcs
    obtain ⟨rfl, rfl, rfl⟩ := hcs
    exact ⟨[], rfl, Nat.zero_le _, fun e he => by simp at he, ⟨fun i hi => by simp at hi⟩⟩
  · simp [Value.cells] at hcs
    obtain ⟨rfl, rfl, rfl⟩ := hcs
    have hle : len ≤ m := by rw [hmm]; split <;> omega
    have hget : ∀ i, i < len → ((List.range len).map fun i => ((intOf (V0 i)).toNat, (intOf (V1 i)).toNat)).getD i (0, 0) = ((intOf (V0 i)).toNat, (intOf (V1 i)).toNat) := fun i hi => by simp [List.getD, hi]
    refine ⟨(List.range len).map fun i => ((intOf (V0 i)).toNat, (intOf (V1 i)).toNat), by simp, by omega, ?_, ⟨fun i hi => ?_⟩⟩
    · intro e he
      obtain ⟨i, hi, rfl⟩ := List.mem_map.1 he
      have hi := List.mem_range.1 hi
      obtain ⟨_, _, t0, t1⟩ := hcell i (by omega)
      exact ⟨(word_val t0).2, (word_val t1).2⟩
    · have hi' : i < len := by simpa using hi
      obtain ⟨c0, c1, t0, t1⟩ := hcell i (by omega)
      obtain ⟨b, off, spot⟩ := x
      have hspot : spot = none := by simpa [Addr.add] using World.cell?_spot (hcell 0 (by omega)).1
      subst hspot
      have e0 : (⟨b, off, none⟩ : Addr).add (i * 2) = ⟨b, off + i * 2, none⟩ := by unfold Addr.add; split <;> simp_all
      have e1 : (⟨b, off, none⟩ : Addr).add (i * 2 + 1) = ⟨b, off + i * 2 + 1, none⟩ := by unfold Addr.add; split <;> simp_all [Nat.add_assoc]
      rw [e0] at c0
      rw [e1] at c1
      rw [hget i hi']
      refine ⟨b, off, rfl, ?_, ?_, ?_⟩
      · rcases Nat.lt_or_ge b w.heap.size with h2 | h2
        · exact h2
        · simp [World.cell?, Array.getElem?_eq_none h2] at c0
      · rw [c0]; exact congrArg some (word_val t0).1
      · rw [c1]; exact congrArg some (word_val t1).1
/-- A slice that leads nowhere has nothing. -/
theorem open_none {a : Option Addr} {len cap : Nat} {d : DataW H} {p : List MemPlace} (h : DataW.Trod enc Try.prog w base spare held 23 (.slice a len cap) d p) : a = none → len = 0 ∧ cap = 0 := by
  obtain ⟨fuel, hf⟩ := h
  rcases Go.Deep.open_slice_pairs Try.underlying23 Try.underlying26 (by kernel_rfl) rfl rfl (by kernel_rfl) (by kernel_rfl) hf with ⟨hcs, _⟩ | ⟨x, l, c, m, n, V0, V1, D0, D1, P0, P1, hcs, _⟩
  · simp [Value.cells] at hcs
    exact fun _ => ⟨hcs.2.1, hcs.2.2⟩
  · simp [Value.cells] at hcs
    intro h
    rw [h] at hcs
    simp at hcs
theorem open_cap {a : Option Addr} {len cap : Nat} {d : DataW H} {p : List MemPlace} (h : DataW.Trod enc Try.prog w base spare held 23 (.slice a len cap) d p) : len ≤ cap := by
  obtain ⟨fuel, hf⟩ := h
  rcases Go.Deep.open_slice_pairs Try.underlying23 Try.underlying26 (by kernel_rfl) rfl rfl (by kernel_rfl) (by kernel_rfl) hf with ⟨hcs, _⟩ | ⟨x, l, c, m, n, V0, V1, D0, D1, P0, P1, hcs, _, hl, _⟩
  · simp [Value.cells] at hcs
    omega
  · simp [Value.cells] at hcs
    obtain ⟨_, rfl, rfl⟩ := hcs
    exact hl
end Go.Proofs.Ytejoombhcnldmaa

/- An argument that is a slice of claims, opened. -/
namespace Go.Proofs.Ytejoombhcnldmaa
open Go.ChangeShapes Go.WideShapes Go.ChangeAt Go.RowKit Go.Joins
variable {H : Type} {enc : TypeId × Value → H} {w : World} {base : Nat} {spare : Nat → Bool} {held : Bool}

instance instStp : Inhabited Stp := ⟨zst⟩
set_option maxRecDepth 100000 in
/-- A slice of claims. -/
theorem open_claims {a : Option Addr} {len cap : Nat} {d : DataW H} {p : List MemPlace} (h : DataW.Trod enc Try.prog w base spare held 22 (.slice a len cap) d p) :
    ∃ os : List Stp, os.length = len ∧ len ≤ maxLen ∧ (∀ o ∈ os, o.ok) ∧ ORow w a os := by
  obtain ⟨fuel, hf⟩ := h
  rcases Go.Deep.open_slice Try.underlying22 hf with ⟨hcs, _⟩ | ⟨x, l, c, m, n, D, Pl, hcs, _, hl, hm, hmm, _, hx⟩
  · simp [Value.cells] at hcs
    obtain ⟨rfl, rfl, rfl⟩ := hcs
    exact ⟨[], rfl, Nat.zero_le _, fun e he => by simp at he, ⟨fun i hi => by simp at hi⟩⟩
  · simp [Value.cells] at hcs
    obtain ⟨rfl, rfl, rfl⟩ := hcs
    have hle : len ≤ m := by rw [hmm]; split <;> omega
    have ce : Try.prog.cellsOf 60 = 5 := by kernel_rfl
    have k1 : Try.prog.cellsOf 3 = 1 := by kernel_rfl
    have k2 : Try.prog.cellsOf 26 = 2 := by kernel_rfl
    have each : ∀ i, i < m → ∃ o : Stp, o.ok ∧ w.cell? (x.add (i * 5)) = some (.int .i64 o.k) ∧ w.cell? (x.add (i * 5 + 1)) = some (.int .i64 o.a) ∧ w.cell? (x.add (i * 5 + 2)) = some (.int .i64 o.b) ∧ w.cell? (x.add (i * 5 + 3)) = some (.int .u64 (o.v.1 : Int)) ∧ w.cell? (x.add (i * 5 + 4)) = some (.int .u64 (o.v.2 : Int)) := by
      intro i hi
      obtain ⟨cs', h1, h2⟩ := hx i hi
      rw [ce] at h1
      obtain ⟨_, hlen, hcell⟩ := World.cells?_some h1
      obtain ⟨y0, y1, y2, y3, n', _, _, g0, g1, g2, g3⟩ := trod_struct4 Try.underlying60 h2
      match cs', hlen with
      | [v0, v1, v2, v3, v4], _ =>
        simp [k1, k2] at g0 g1 g2 g3
        obtain ⟨i0, e0, _, _⟩ := DataW.trod_int Try.underlying3 g0
        obtain ⟨i1, e1, _, _⟩ := DataW.trod_int Try.underlying3 g1
        obtain ⟨i2, e2, _, _⟩ := DataW.trod_int Try.underlying3 g2
        obtain ⟨p0, p1, e3, e4, l0, l1⟩ := elem_cells g3
        simp at e0 e1 e2
        subst e0 e1 e2 e3 e4
        have q0 := hcell 0 (by omega)
        have q1 := hcell 1 (by omega)
        have q2 := hcell 2 (by omega)
        have q3 := hcell 3 (by omega)
        have q4 := hcell 4 (by omega)
        rw [Go.Deep.add_add] at q0 q1 q2 q3 q4
        exact ⟨⟨i0, i1, i2, (p0, p1)⟩, ⟨l0, l1⟩, by simpa using q0, by simpa using q1, by simpa using q2, by simpa using q3, by simpa using q4⟩
    obtain ⟨q, hq⟩ := Go.Deep.choose_lt each
    have hget : ∀ i, i < len → ((List.range len).map q).getD i zst = q i := fun i hi => by simp [List.getD, hi]
    refine ⟨(List.range len).map q, by simp, by omega, ?_, ⟨fun i hi => ?_⟩⟩
    · intro o ho
      obtain ⟨i, hi, rfl⟩ := List.mem_map.1 ho
      have hi := List.mem_range.1 hi
      exact (hq i (by omega)).1
    · have hi' : i < len := by simpa using hi
      obtain ⟨_, c0, c1, c2, c3, c4⟩ := hq i (by omega)
      obtain ⟨b, off, spot⟩ := x
      have hspot : spot = none := by simpa [Addr.add] using World.cell?_spot (hq 0 (by omega)).2.1
      subst hspot
      have e : ∀ j, (⟨b, off, none⟩ : Addr).add (i * 5 + j) = ⟨b, off + i * 5 + j, none⟩ := fun j => by unfold Addr.add; split <;> simp_all [Nat.add_assoc]
      have e0 : (⟨b, off, none⟩ : Addr).add (i * 5) = ⟨b, off + i * 5, none⟩ := e 0
      rw [e0] at c0
      rw [e] at c1 c2 c3 c4
      rw [hget i hi']
      exact ⟨b, off, rfl, cell_lt c0, c0, c1, c2, c3, c4⟩
end Go.Proofs.Ytejoombhcnldmaa

/- Arguments that are a struct of two slices of elements, an array of two such slices, or an array of two ints, opened. -/
namespace Go.Proofs.Ytejoombhcnldmaa
open Go.ChangeShapes Go.WideShapes Go.ChangeAt Go.RowKit Go.Joins
variable {H : Type} {enc : TypeId × Value → H} {W : World}

theorem arrC2 {α : Type} {cs : Array α} (h : cs.size = 2) : ∃ c0 c1, cs = #[c0, c1] := by
  obtain ⟨l⟩ := cs
  match l, h with
  | [c0, c1], _ => exact ⟨c0, c1, rfl⟩
theorem elems_val {n : Nat} {c : Value} {y : DataW H × List MemPlace} (h : DataW.trod enc Try.prog W 0 (fun _ => true) true n 23 [c] = some y) :
    ∃ (a : Option Addr) (cap : Nat) (es : List (Nat × Nat)), c = .slice a es.length cap ∧ es.length ≤ maxLen ∧ ltE es ∧ ERow W a es ∧ (a = none → es.length = 0 ∧ cap = 0) ∧ es.length ≤ cap := by
  have hV : ∃ a' l' c', c = .slice a' l' c' := by
    rcases Go.Deep.open_slice Try.underlying23 h with ⟨e, _⟩ | ⟨a', l', c', _, _, _, _, e, _⟩
    · exact ⟨none, 0, 0, by simpa using e⟩
    · exact ⟨some a', l', c', by simpa using e⟩
  obtain ⟨a', l', c', rfl⟩ := hV
  have hT : DataW.Trod enc Try.prog W 0 (fun _ => true) true 23 (.slice a' l' c') y.1 y.2 := ⟨n, by simpa [Value.cells] using h⟩
  obtain ⟨es, rfl, h3, h4, h5⟩ := open_elems hT
  exact ⟨a', c', es, rfl, h3, h4, h5, open_none hT, open_cap hT⟩
end Go.Proofs.Ytejoombhcnldmaa

/- An argument that is sizes, claims, a point and an element, opened. -/
namespace Go.Proofs.Ytejoombhcnldmaa
open Go.ChangeShapes Go.WideShapes Go.ChangeAt Go.RowKit Go.Joins
variable {H : Type} {enc : TypeId × Value → H} {W : World}

theorem arrM6 {α : Type} {cs : Array α} (h : cs.size = 6) : ∃ c0 c1 c2 c3 c4 c5, cs = #[c0, c1, c2, c3, c4, c5] := by
  obtain ⟨l⟩ := cs
  match l, h with
  | [c0, c1, c2, c3, c4, c5], _ => exact ⟨c0, c1, c2, c3, c4, c5, rfl⟩
theorem claims_val {n : Nat} {c : Value} {y : DataW H × List MemPlace} (h : DataW.trod enc Try.prog W 0 (fun _ => true) true n 22 [c] = some y) :
    ∃ (a : Option Addr) (cap : Nat) (os : List Stp), c = .slice a os.length cap ∧ (∀ o ∈ os, o.ok) ∧ ORow W a os := by
  have hV : ∃ a' l' c', c = .slice a' l' c' := by
    rcases Go.Deep.open_slice Try.underlying22 h with ⟨e, _⟩ | ⟨a', l', c', _, _, _, _, e, _⟩
    · exact ⟨none, 0, 0, by simpa using e⟩
    · exact ⟨some a', l', c', by simpa using e⟩
  obtain ⟨a', l', c', rfl⟩ := hV
  have hT : DataW.Trod enc Try.prog W 0 (fun _ => true) true 22 (.slice a' l' c') y.1 y.2 := ⟨n, by simpa [Value.cells] using h⟩
  obtain ⟨os, rfl, _, h2, h3⟩ := open_claims hT
  exact ⟨a', c', os, rfl, h2, h3⟩
set_option maxRecDepth 100000 in
/-- Two ints, claims, elements, and an element. -/
theorem open_case22 {r : Reach} {b0 : Nat} {v : Value} {d : DataW H} {p : List MemPlace} (hv : Value.okWide Try.prog W r b0 28 v) (h : DataW.Trod enc Try.prog W 0 (fun _ => true) true 28 v d p) :
    ∃ (cc ww : Int) (a z : Option Addr) (cap zcap : Nat) (os : List Stp) (es : List (Nat × Nat)) (b : Nat × Nat), v = .agg #[.int .i64 cc, .int .i64 ww, .slice a os.length cap, .slice z es.length zcap, .int .u64 (b.1 : Int), .int .u64 (b.2 : Int)] ∧ ((∀ o ∈ os, o.ok) ∧ ORow W a os) ∧ (ltE es ∧ ERow W z es) ∧ b.1 < 2 ^ 64 ∧ b.2 < 2 ^ 64 := by
  obtain ⟨cs, rfl, hsz⟩ := okWide_struct Try.underlying28 hv
  obtain ⟨c0, c1, c2, c3, c4, c5, rfl⟩ := arrM6 (hsz.trans (by kernel_rfl))
  obtain ⟨fuel, hf⟩ := h
  obtain ⟨xs, n, _, _, _, hlen, hel⟩ := DataW.trod_struct Try.underlying28 hf
  have k1 : Try.prog.cellsOf 3 = 1 := by kernel_rfl
  have k2 : Try.prog.cellsOf 22 = 1 := by kernel_rfl
  have k3 : Try.prog.cellsOf 23 = 1 := by kernel_rfl
  have k4 : Try.prog.cellsOf 26 = 2 := by kernel_rfl
  match xs, hlen with
  | [y0, y1, y2, y3, y4], _ =>
    have h0 := hel 0 _ rfl
    have h1 := hel 1 _ rfl
    have h2 := hel 2 _ rfl
    have h3 := hel 3 _ rfl
    have h4 := hel 4 _ rfl
    simp [Value.cells, k1, k2, k3, k4] at h0 h1 h2 h3 h4
    obtain ⟨i0, e0, _, _⟩ := DataW.trod_int Try.underlying3 h0
    obtain ⟨i1, e1, _, _⟩ := DataW.trod_int Try.underlying3 h1
    simp at e0 e1
    subst e0 e1
    obtain ⟨a, cap, os, rfl, q1, q2⟩ := claims_val h2
    obtain ⟨z, zcap, es, rfl, _, q5, q6, _, _⟩ := elems_val h3
    obtain ⟨p0, p1, rfl, rfl, l0, l1⟩ := elem_cells h4
    exact ⟨i0, i1, a, z, cap, zcap, os, es, (p0, p1), rfl, ⟨q1, q2⟩, ⟨q5, q6⟩, l0, l1⟩
end Go.Proofs.Ytejoombhcnldmaa

/- A slice of elements is not longer than its capacity. -/
namespace Go.Proofs.Ytejoombhcnldmaa
open Go.ChangeShapes Go.WideShapes Go.ChangeAt Go.RowKit Go.Joins
variable {H : Type} {enc : TypeId × Value → H} {W : World}

/-- A slice is not longer than its capacity. -/
theorem cap_elems {a : Option Addr} {len cap : Nat} {d : DataW H} {p : List MemPlace} (h : DataW.Trod enc Try.prog W 0 (fun _ => true) true 23 (.slice a len cap) d p) : len ≤ cap := by
  obtain ⟨n, hn⟩ := h
  obtain ⟨a', cap', es, e, _, _, _, _, hle⟩ := elems_val (c := .slice a len cap) (by simpa [Value.cells] using hn)
  injection e with _ e1 e2
  omega
end Go.Proofs.Ytejoombhcnldmaa
