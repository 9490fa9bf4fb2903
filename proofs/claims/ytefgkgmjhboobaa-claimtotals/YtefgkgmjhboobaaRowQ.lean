/- An argument that is a slice of claims, opened. -/
import Derived.Test.YtefgkgmjhboobaaRowS
import Derived.Test.YtefgkgmjhboobaaPTuA
import Derived.Deep.Slices
namespace Go.Proofs.Ytefgkgmjhboobaa
open Go.ChangeShapes Go.WideShapes Go.ChangeAt Go.RowKit Go.Joins
variable {H : Type} {enc : TypeId × Value → H} {w : World} {base : Nat} {spare : Nat → Bool} {held : Bool}

instance instStp : Inhabited Stp := ⟨zst⟩
set_option maxRecDepth 100000 in
/-- A slice of claims. -/
theorem open_claims {a : Option Addr} {len cap : Nat} {d : DataW H} {p : List MemPlace} (h : DataW.Trod enc Try.prog w base spare held 22 (.slice a len cap) d p) :
    ∃ os : List Stp, os.length = len ∧ len ≤ maxLen ∧ (∀ o ∈ os, o.ok) ∧ ORow w a os := by
  obtain ⟨fuel, hf⟩ := h
  rcases Go.Deep.open_slice Try.underlying22 hf with ⟨hcs, _⟩ | ⟨x, l, c, m, n, D, Pl, hcs, _, hl, hm, hmm, _, hx⟩
  · simp [Value.cells] at hcs
    obtain ⟨rfl, rfl, rfl⟩ := hcs
    exact ⟨[], rfl, Nat.zero_le _, fun e he => by simp at he, ⟨fun i hi => by simp at hi⟩⟩
  · simp [Value.cells] at hcs
    obtain ⟨rfl, rfl, rfl⟩ := hcs
    have hle : len ≤ m := by rw [hmm]; split <;> omega
    have ce : Try.prog.cellsOf 60 = 5 := by kernel_rfl
    have k1 : Try.prog.cellsOf 3 = 1 := by kernel_rfl
    have k2 : Try.prog.cellsOf 26 = 2 := by kernel_rfl
    have each : ∀ i, i < m → ∃ o : Stp, o.ok ∧ w.cell? (x.add (i * 5)) = some (.int .i64 o.k) ∧ w.cell? (x.add (i * 5 + 1)) = some (.int .i64 o.a) ∧ w.cell? (x.add (i * 5 + 2)) = some (.int .i64 o.b) ∧ w.cell? (x.add (i * 5 + 3)) = some (.int .u64 (o.v.1 : Int)) ∧ w.cell? (x.add (i * 5 + 4)) = some (.int .u64 (o.v.2 : Int)) := by
      intro i hi
      obtain ⟨cs', h1, h2⟩ := hx i hi
      rw [ce] at h1
      obtain ⟨_, hlen, hcell⟩ := World.cells?_some h1
      obtain ⟨y0, y1, y2, y3, n', _, _, g0, g1, g2, g3⟩ := trod_struct4 Try.underlying60 h2
      match cs', hlen with
      | [v0, v1, v2, v3, v4], _ =>
        simp [k1, k2] at g0 g1 g2 g3
        obtain ⟨i0, e0, _, _⟩ := DataW.trod_int Try.underlying3 g0
        obtain ⟨i1, e1, _, _⟩ := DataW.trod_int Try.underlying3 g1
        obtain ⟨i2, e2, _, _⟩ := DataW.trod_int Try.underlying3 g2
        obtain ⟨p0, p1, e3, e4, l0, l1⟩ := elem_cells g3
        simp at e0 e1 e2
        subst e0 e1 e2 e3 e4
        have q0 := hcell 0 (by omega)
        have q1 := hcell 1 (by omega)
        have q2 := hcell 2 (by omega)
        have q3 := hcell 3 (by omega)
        have q4 := hcell 4 (by omega)
        rw [Go.Deep.add_add] at q0 q1 q2 q3 q4
        exact ⟨⟨i0, i1, i2, (p0, p1)⟩, ⟨l0, l1⟩, by simpa using q0, by simpa using q1, by simpa using q2, by simpa using q3, by simpa using q4⟩
    obtain ⟨q, hq⟩ := Go.Deep.choose_lt each
    have hget : ∀ i, i < len → ((List.range len).map q).getD i zst = q i := fun i hi => by simp [List.getD, hi]
    refine ⟨(List.range len).map q, by simp, by omega, ?_, ⟨fun i hi => ?_⟩⟩
    · intro o ho
      obtain ⟨i, hi, rfl⟩ := List.mem_map.1 ho
      have hi := List.mem_range.1 hi
      exact (hq i (by omega)).1
    · have hi' : i < len := by simpa using hi
      obtain ⟨_, c0, c1, c2, c3, c4⟩ := hq i (by omega)
      obtain ⟨b, off, spot⟩ := x
      have hspot : spot = none := by simpa [Addr.add] using World.cell?_spot (hq 0 (by omega)).2.1
      subst hspot
      have e : ∀ j, (⟨b, off, none⟩ : Addr).add (i * 5 + j) = ⟨b, off + i * 5 + j, none⟩ := fun j => by unfold Addr.add; split <;> simp_all [Nat.add_assoc]
      have e0 : (⟨b, off, none⟩ : Addr).add (i * 5) = ⟨b, off + i * 5, none⟩ := e 0
      rw [e0] at c0
      rw [e] at c1 c2 c3 c4
      rw [hget i hi']
      exact ⟨b, off, rfl, cell_lt c0, c0, c1, c2, c3, c4⟩
end Go.Proofs.Ytefgkgmjhboobaa
