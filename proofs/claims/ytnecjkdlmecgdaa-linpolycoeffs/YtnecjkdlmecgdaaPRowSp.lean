/- The contract of steeplelaw05.Space.Made over the seat's translation: which spaces statements go through. -/
import Derived.Test.YtnecjkdlmecgdaaPLqH
import Derived.Test.YtnecjkdlmecgdaaPLpI
import Derived.Test.YtnecjkdlmecgdaaRows
import Derived.Test.YtnecjkdlmecgdaaTwBl
import Derived.ProofKit
import Derived.OpenShut
import Derived.ShutString
import Derived.ChangeOld
import Derived.Lib.SmallJoins
import Derived.Test.YtnecjkdlmecgdaaPSlA
import Derived.Deep.SlicePairs
import Derived.Deep.Strs
import Derived.Deep.Slices
namespace Go.Proofs.Ytnecjkdlmecgdaa
open Go.RowKit
open Cb Rg Sq Lq
open Tw (pm)

/-- A space of at most six dimensions. -/
def Ok5 (l : Int) (es : List (Nat × Nat)) : Prop := (0 ≤ l ∧ l ≤ 7) ∧ es.length ≤ 6 ∧ (es.all fun e => ofB l (e.1 : Int) (e.2 : Int)) = true ∧ Free es es.length
theorem Ok5.lvl {l : Int} {es : List (Nat × Nat)} (h : Ok5 l es) : ∃ k : Nat, k < 8 ∧ l = (k : Int) ∧ ofT k es := by
  obtain ⟨⟨h0, h7⟩, _, ho, _⟩ := h
  refine ⟨l.toNat, by omega, by omega, fun e he => ?_⟩
  have := List.all_eq_true.1 ho e he
  show ofB ((l.toNat : Nat) : Int) _ _ = true
  rw [show ((l.toNat : Nat) : Int) = l by omega]
  exact this
/-- What New answers where there is no space. -/
theorem new_no (l : Int) (a : Option Addr) (cap : Nat) (es : List (Nat × Nat)) (hes : ltE es) (h6 : es.length ≤ 6) (h : ¬ Ok5 l es) (W : World) (hr : ERow W a es) :
    Calls Try.prog 10 #[.int .i64 l, .slice a es.length cap] W fun e w' => ∃ E : Int, ¬ E = 0 ∧ e = .returned (.tuple #[.pointer none, .int .i64 E]) ∧ Below W.heap.size W w' := by
  by_cases hl : 0 ≤ l ∧ l ≤ 7
  · by_cases ho : (es.all fun e => ofB l (e.1 : Int) (e.2 : Int)) = true
    · by_cases hf : Free es es.length
      · exact absurd ⟨hl, h6, ho, hf⟩ h
      · exact (new_rule l hl a cap es hes (by omega) ho hf W hr).mono fun e w' ⟨h1, h2⟩ => ⟨7, by decide, h1, h2⟩
    · exact (new_field l hl a cap es hes (by omega) (by simpa using ho) W hr).mono fun e w' ⟨h1, h2⟩ => ⟨5, by decide, h1, h2⟩
  · exact ((new_arg l a es.length cap hl).go W).mono fun e w' ⟨h1, h2⟩ => ⟨1, by decide, h1, h2⟩
set_option maxHeartbeats 2000000 in
set_option maxRecDepth 100000 in
theorem made_no (l : Int) (a : Option Addr) (cap : Nat) (es : List (Nat × Nat)) (hes : ltE es) (h : ¬ Ok5 l es) (W : World) (hr : ERow W a es) :
    Calls Try.prog 21 #[.agg #[.int .i64 l, .slice a es.length cap]] W fun e w' => e = .returned (.pointer none) ∧ Below W.heap.size W w' := by
  by_cases h6 : es.length ≤ 6
  · have HN := hidT (fun w (hb : Below W.heap.size W w) => new_no l a cap es hes h6 h w (hr.below hb))
    have h6' : ¬ (6 : Int) < (es.length : Int) := by omega
    clear h hr hes h6
    generalize es.length = n at *
    go_enter Try.func21, Try.ntmps21
    go_wp2_with fail
    have B0 : Below W.heap.size W (W.alloc (Obj.cells #[.int .i64 l, .slice a n cap] 24)) := (Below.refl _ _).alloc (Nat.le_refl _) _
    refine (HN.out _ B0).mono ?_
    rintro e w1 ⟨E, hE, rfl, hb1⟩
    have D1 := hidT (B0.trans (hb1.mono B0.size))
    clear hb1 B0 HN
    go_wp2
    go_ret
    exact ⟨rfl, D1.out⟩
  · have h6' : (6 : Int) < (es.length : Int) := by omega
    clear h hr hes h6
    generalize es.length = n at *
    go_enter Try.func21, Try.ntmps21
    go_wp2
    go_ret
    exact ⟨rfl, by go_grown⟩
set_option maxHeartbeats 2000000 in
set_option maxRecDepth 100000 in
theorem made_ok (l : Int) (k : Nat) (hk : k < 8) (hl : l = (k : Int)) (a : Option Addr) (cap : Nat) (es : List (Nat × Nat)) (hes : ltE es) (ha : a = none → es.length = 0 ∧ cap = 0) (h : Ok5 l es) (ot : ofT k es) (W : World) (hr : ERow W a es) :
    Calls Try.prog 21 #[.agg #[.int .i64 l, .slice a es.length cap]] W fun e w' => ∃ p ts a' aT aB c cT cB, e = .returned (.pointer (some ⟨p, 0, none⟩)) ∧ Spa w' p k es ts a' aT aB c cT cB ∧ Spu k es ts c cT ∧ Below W.heap.size W w' := by
  subst hl
  have HN := hidT (fun w (hb : Below W.heap.size W w) => new_ok k hk a cap es hes (by have := h.2.1; omega) ot h.2.2.2 ha w (hr.below hb))
  have h6' : ¬ (6 : Int) < (es.length : Int) := by have := h.2.1; omega
  clear h hr hes ha ot
  generalize hn : es.length = n at *
  go_enter Try.func21, Try.ntmps21
  go_wp2_with fail
  have B0 : Below W.heap.size W (W.alloc (Obj.cells #[.int .i64 (k : Int), .slice a n cap] 24)) := (Below.refl _ _).alloc (Nat.le_refl _) _
  refine (HN.out _ B0).mono ?_
  rintro e w1 ⟨p, ts, a', aT, aB, c, cT, cB, rfl, hS, hU, hb1⟩
  have D1 := hidT (B0.trans (hb1.mono B0.size))
  have S1 := hidT hS
  have U1 := hidT hU
  clear hb1 B0 HN hS hU
  go_wp2
  go_ret
  exact ⟨p, ts, a', aT, aB, c, cT, cB, rfl, S1.out, U1.out, D1.out⟩
/-- Value at any number and element. -/
def svv (k : Nat) (es : List (Nat × Nat)) (i : Int) (x : Nat × Nat) : Nat × Nat := if hsv k es.length i x = true then vw es i.toNat x else (0, 0)
theorem lt_svv (k : Nat) (es : List (Nat × Nat)) (i : Int) (x : Nat × Nat) : lt2 (svv k es i x) := by
  unfold svv; split
  · exact lt_vw _ _ _
  · exact lt_zero
theorem hsv_true {k n : Nat} {i : Int} {x : Nat × Nat} (h : hsv k n i x = true) : ∃ j : Nat, i = (j : Int) ∧ j ≤ n ∧ ofE k x := by
  unfold hsv at h
  simp only [Bool.and_eq_true, decide_eq_true_eq] at h
  exact ⟨i.toNat, by omega, by omega, h.2.2⟩
theorem sval_any {W : World} {p k : Nat} {es ts : List (Nat × Nat)} {a aT aB : Option Addr} {c cT cB : Nat} (hS : Spa W p k es ts a aT aB c cT cB) (hu : Spu k es ts c cT) (i : Int) (x : Nat × Nat) (lx : lt2 x) :
    Calls Try.prog 22 #[.pointer (some ⟨p, 0, none⟩), .int .i64 i, .agg #[.int .u64 (x.1 : Int), .int .u64 (x.2 : Int)]] W fun e w' => e = .returned (.agg #[.int .u64 ((svv k es i x).1 : Int), .int .u64 ((svv k es i x).2 : Int)]) ∧ Below W.heap.size W w' := by
  unfold svv
  by_cases h : hsv k es.length i x = true
  · rw [if_pos h]
    obtain ⟨j, rfl, hj, ox⟩ := hsv_true h
    exact sval_ok hS hu j hj x lx ox
  · rw [if_neg h]
    exact sval_no hS i x lx (by simpa using h)
/-- Norm at any number and element. -/
def snn (k : Nat) (es : List (Nat × Nat)) (i : Int) (x : Nat × Nat) : Nat × Nat := if hsv k es.length i x = true ∧ ¬ i = (es.length : Int) then mulv (k : Int) (vw es i.toNat x) (ivv (k : Int) (vw es i.toNat (el es i.toNat))) else (0, 0)
theorem snorm_any {W : World} {p k : Nat} {es ts : List (Nat × Nat)} {a aT aB : Option Addr} {c cT cB : Nat} (hS : Spa W p k es ts a aT aB c cT cB) (hu : Spu k es ts c cT) (i : Int) (x : Nat × Nat) (lx : lt2 x) :
    Calls Try.prog 23 #[.pointer (some ⟨p, 0, none⟩), .int .i64 i, .agg #[.int .u64 (x.1 : Int), .int .u64 (x.2 : Int)]] W fun e w' => e = .returned (.agg #[.int .u64 ((snn k es i x).1 : Int), .int .u64 ((snn k es i x).2 : Int)]) ∧ Below W.heap.size W w' := by
  unfold snn
  by_cases h : hsv k es.length i x = true ∧ ¬ i = (es.length : Int)
  · rw [if_pos h]
    obtain ⟨j, rfl, hj, ox⟩ := hsv_true h.1
    exact snorm_ok hS hu j (by have := h.2; omega) x lx ox
  · rw [if_neg h]
    refine snorm_no hS i x lx ?_
    by_cases h1 : hsv k es.length i x = true
    · exact .inr (Decidable.byContradiction fun h2 => h ⟨h1, h2⟩)
    · exact .inl (by simpa using h1)
end Go.Proofs.Ytnecjkdlmecgdaa

/- Arguments that are elements, or three elements, opened: their values written out, with the bounds of their words. -/
namespace Go.Proofs.Ytnecjkdlmecgdaa
open Go.ChangeShapes Go.WideShapes Go.ChangeAt Go.RowKit Go.Joins

theorem own : ownKnob Try.prog.godebug = none := by kernel_rfl
theorem laidOut : laidOutB Try.prog = true := by kernel_rfl

theorem word_nat {n : Int} (h : (Lit.int .u64 n).wf = true) : ∃ m : Nat, n = (m : Int) ∧ m < 2 ^ 64 := by
  have h2 : 0 ≤ n ∧ n < 18446744073709551616 := by
    have := h
    simp [Lit.wf] at this
    have e1 : IntKind.u64.min = 0 := by decide
    have e2 : IntKind.u64.max = 18446744073709551615 := by decide
    rw [e1, e2] at this
    omega
  exact ⟨n.toNat, by omega, by omega⟩

variable {H : Type} {enc : TypeId × Value → H} {w : World} {base : Nat} {spare : Nat → Bool} {held : Bool}

theorem elem_cells {n : Nat} {c0 c1 : Value} {y : DataW H × List MemPlace} (h : DataW.trod enc Try.prog w base spare held n 27 [c0, c1] = some y) :
    ∃ a b : Nat, c0 = .int .u64 (a : Int) ∧ c1 = .int .u64 (b : Int) ∧ a < 2 ^ 64 ∧ b < 2 ^ 64 := by
  obtain ⟨y0, y1, m, hx, _, h0, h1⟩ := trod_struct2 Try.underlying27 h
  have k0 : Try.prog.cellsOf 25 = 1 := by kernel_rfl
  simp [k0] at h0 h1
  obtain ⟨a, e0, _, w0⟩ := DataW.trod_int Try.underlying25 h0
  obtain ⟨b, e1, _, w1⟩ := DataW.trod_int Try.underlying25 h1
  obtain ⟨a', rfl, ha⟩ := word_nat w0
  obtain ⟨b', rfl, hb⟩ := word_nat w1
  simp at e0 e1
  exact ⟨a', b', e0, e1, ha, hb⟩
set_option maxRecDepth 100000 in
/-- An element by value. -/
theorem open_elem {r : Reach} {b0 : Nat} {v : Value} {d : DataW H} {p : List MemPlace} (hv : Value.okWide Try.prog w r b0 27 v) (h : DataW.Trod enc Try.prog w base spare held 27 v d p) :
    ∃ a b : Nat, v = .agg #[.int .u64 (a : Int), .int .u64 (b : Int)] ∧ a < 2 ^ 64 ∧ b < 2 ^ 64 := by
  obtain ⟨cs, rfl, hsz⟩ := okWide_struct Try.underlying27 hv
  obtain ⟨c0, c1, rfl⟩ := array2 (hsz.trans (by kernel_rfl))
  obtain ⟨fuel, hf⟩ := h
  obtain ⟨a, b, rfl, rfl, ha, hb⟩ := elem_cells (y := (d, p)) (n := fuel) (c0 := c0) (c1 := c1) (by simpa [Value.cells] using hf)
  exact ⟨a, b, rfl, ha, hb⟩
end Go.Proofs.Ytnecjkdlmecgdaa

/- An argument that is a slice of elements, opened: a list of pairs of words, and where they lie. -/
namespace Go.Proofs.Ytnecjkdlmecgdaa
open Go.ChangeShapes Go.WideShapes Go.ChangeAt Go.RowKit Go.Joins
variable {H : Type} {enc : TypeId × Value → H} {w : World} {base : Nat} {spare : Nat → Bool} {held : Bool}

theorem word_val {n : Nat} {c : Value} {y : DataW H × List MemPlace} (h : DataW.trod enc Try.prog w base spare held n 25 [c] = some y) :
    c = .int .u64 (((intOf c).toNat : Nat) : Int) ∧ (intOf c).toNat < 2 ^ 64 := by
  obtain ⟨a, e0, _, w0⟩ := DataW.trod_int Try.underlying25 h
  obtain ⟨a', rfl, ha⟩ := word_nat w0
  simp at e0
  subst e0
  exact ⟨by simp [intOf], by simpa [intOf] using ha⟩
/-- A slice of elements. -/
theorem open_elems {a : Option Addr} {len cap : Nat} {d : DataW H} {p : List MemPlace} (h : DataW.Trod enc Try.prog w base spare held 22 (.slice a len cap) d p) :
    ∃ es : List (Nat × Nat), es.length = len ∧ len ≤ maxLen ∧ ltE es ∧ ERow w a es := by
  obtain ⟨fuel, hf⟩ := h
  rcases Go.Deep.open_slice_pairs Try.underlying22 Try.underlying27 (by kernel_rfl) rfl rfl (by kernel_rfl) (by kernel_rfl) hf with ⟨hcs, _⟩ | ⟨x, l, c, m, n, V0, V1, D0, D1, P0, P1, hcs, _, hl, hm, hmm, _, hcell⟩
  · simp [Value.cells] at hcs
    obtain ⟨rfl, rfl, rfl⟩ := hcs
    exact ⟨[], rfl, Nat.zero_le _, fun e he => by simp at he, ⟨fun i hi => by simp at hi⟩⟩
  · simp [Value.cells] at hcs
    obtain ⟨rfl, rfl, rfl⟩ := hcs
    have hle : len ≤ m := by rw [hmm]; split <;> omega
    have hget : ∀ i, i < len → ((List.range len).map fun i => ((intOf (V0 i)).toNat, (intOf (V1 i)).toNat)).getD i (0, 0) = ((intOf (V0 i)).toNat, (intOf (V1 i)).toNat) := fun i hi => by simp [List.getD, hi]
    refine ⟨(List.range len).map fun i => ((intOf (V0 i)).toNat, (intOf (V1 i)).toNat), by simp, by omega, ?_, ⟨fun i hi => ?_⟩⟩
    · intro e he
      obtain ⟨i, hi, rfl⟩ := List.mem_map.1 he
      have hi := List.mem_range.1 hi
      obtain ⟨_, _, t0, t1⟩ := hcell i (by omega)
      exact ⟨(word_val t0).2, (word_val t1).2⟩
    · have hi' : i < len := by simpa using hi
      obtain ⟨c0, c1, t0, t1⟩ := hcell i (by omega)
      obtain ⟨b, off, spot⟩ := x
      have hspot : spot = none := by simpa [Addr.add] using World.cell?_spot (hcell 0 (by omega)).1
      subst hspot
      have e0 : (⟨b, off, none⟩ : Addr).add (i * 2) = ⟨b, off + i * 2, none⟩ := by unfold Addr.add; split <;> simp_all
      have e1 : (⟨b, off, none⟩ : Addr).add (i * 2 + 1) = ⟨b, off + i * 2 + 1, none⟩ := by unfold Addr.add; split <;> simp_all [Nat.add_assoc]
      rw [e0] at c0
      rw [e1] at c1
      rw [hget i hi']
      refine ⟨b, off, rfl, ?_, ?_, ?_⟩
      · rcases Nat.lt_or_ge b w.heap.size with h2 | h2
        · exact h2
        · simp [World.cell?, Array.getElem?_eq_none h2] at c0
      · rw [c0]; exact congrArg some (word_val t0).1
      · rw [c1]; exact congrArg some (word_val t1).1
/-- A slice that leads nowhere has nothing. -/
theorem open_none {a : Option Addr} {len cap : Nat} {d : DataW H} {p : List MemPlace} (h : DataW.Trod enc Try.prog w base spare held 22 (.slice a len cap) d p) : a = none → len = 0 ∧ cap = 0 := by
  obtain ⟨fuel, hf⟩ := h
  rcases Go.Deep.open_slice_pairs Try.underlying22 Try.underlying27 (by kernel_rfl) rfl rfl (by kernel_rfl) (by kernel_rfl) hf with ⟨hcs, _⟩ | ⟨x, l, c, m, n, V0, V1, D0, D1, P0, P1, hcs, _⟩
  · simp [Value.cells] at hcs
    exact fun _ => ⟨hcs.2.1, hcs.2.2⟩
  · simp [Value.cells] at hcs
    intro h
    rw [h] at hcs
    simp at hcs
theorem open_cap {a : Option Addr} {len cap : Nat} {d : DataW H} {p : List MemPlace} (h : DataW.Trod enc Try.prog w base spare held 22 (.slice a len cap) d p) : len ≤ cap := by
  obtain ⟨fuel, hf⟩ := h
  rcases Go.Deep.open_slice_pairs Try.underlying22 Try.underlying27 (by kernel_rfl) rfl rfl (by kernel_rfl) (by kernel_rfl) hf with ⟨hcs, _⟩ | ⟨x, l, c, m, n, V0, V1, D0, D1, P0, P1, hcs, _, hl, _⟩
  · simp [Value.cells] at hcs
    omega
  · simp [Value.cells] at hcs
    obtain ⟨_, rfl, rfl⟩ := hcs
    exact hl
end Go.Proofs.Ytnecjkdlmecgdaa

/- Arguments that are a struct of two slices of elements, an array of two such slices, or an array of two ints, opened. -/
namespace Go.Proofs.Ytnecjkdlmecgdaa
open Go.ChangeShapes Go.WideShapes Go.ChangeAt Go.RowKit Go.Joins
variable {H : Type} {enc : TypeId × Value → H} {W : World}

theorem arrC2 {α : Type} {cs : Array α} (h : cs.size = 2) : ∃ c0 c1, cs = #[c0, c1] := by
  obtain ⟨l⟩ := cs
  match l, h with
  | [c0, c1], _ => exact ⟨c0, c1, rfl⟩
theorem elems_val {n : Nat} {c : Value} {y : DataW H × List MemPlace} (h : DataW.trod enc Try.prog W 0 (fun _ => true) true n 22 [c] = some y) :
    ∃ (a : Option Addr) (cap : Nat) (es : List (Nat × Nat)), c = .slice a es.length cap ∧ es.length ≤ maxLen ∧ ltE es ∧ ERow W a es ∧ (a = none → es.length = 0 ∧ cap = 0) ∧ es.length ≤ cap := by
  have hV : ∃ a' l' c', c = .slice a' l' c' := by
    rcases Go.Deep.open_slice Try.underlying22 h with ⟨e, _⟩ | ⟨a', l', c', _, _, _, _, e, _⟩
    · exact ⟨none, 0, 0, by simpa using e⟩
    · exact ⟨some a', l', c', by simpa using e⟩
  obtain ⟨a', l', c', rfl⟩ := hV
  have hT : DataW.Trod enc Try.prog W 0 (fun _ => true) true 22 (.slice a' l' c') y.1 y.2 := ⟨n, by simpa [Value.cells] using h⟩
  obtain ⟨es, rfl, h3, h4, h5⟩ := open_elems hT
  exact ⟨a', c', es, rfl, h3, h4, h5, open_none hT, open_cap hT⟩
end Go.Proofs.Ytnecjkdlmecgdaa

/- An argument that is an array of two elements, opened. -/
namespace Go.Proofs.Ytnecjkdlmecgdaa
open Go.ChangeShapes Go.WideShapes Go.ChangeAt Go.RowKit Go.Joins
variable {H : Type} {enc : TypeId × Value → H} {W : World}

theorem arrD4 {α : Type} {cs : Array α} (h : cs.size = 4) : ∃ c0 c1 c2 c3, cs = #[c0, c1, c2, c3] := by
  obtain ⟨l⟩ := cs
  match l, h with
  | [c0, c1, c2, c3], _ => exact ⟨c0, c1, c2, c3, rfl⟩
set_option maxRecDepth 100000 in
/-- Two elements by value. -/
theorem open_pairE {r : Reach} {b0 : Nat} {v : Value} {d : DataW H} {p : List MemPlace} {base : Nat} {spare : Nat → Bool} {held : Bool} (hv : Value.okWide Try.prog W r b0 57 v) (h : DataW.Trod enc Try.prog W base spare held 57 v d p) :
    ∃ x y : Nat × Nat, v = .agg #[.int .u64 (x.1 : Int), .int .u64 (x.2 : Int), .int .u64 (y.1 : Int), .int .u64 (y.2 : Int)] ∧ (x.1 < 2 ^ 64 ∧ x.2 < 2 ^ 64) ∧ (y.1 < 2 ^ 64 ∧ y.2 < 2 ^ 64) := by
  obtain ⟨cs, rfl, hsz⟩ : ∃ cs, v = .agg cs ∧ cs.size = Try.prog.cellsOf 57 := by
    simp only [Value.okWide, Try.underlying57] at hv
    obtain ⟨cs, h1, h2, _⟩ := hv
    exact ⟨cs, h1, h2⟩
  obtain ⟨c0, c1, c2, c3, rfl⟩ := arrD4 (hsz.trans (by kernel_rfl))
  obtain ⟨fuel, hf⟩ := h
  obtain ⟨xs, m, _, _, _, hl, hel⟩ := DataW.trod_array Try.underlying57 hf
  have k0 : Try.prog.cellsOf 27 = 2 := by kernel_rfl
  have h0 := hel 0 (by decide)
  have h1 := hel 1 (by decide)
  match xs, hl with
  | [y0, y1], _ =>
    simp [k0, Value.cells] at h0 h1
    obtain ⟨a1, a0, rfl, rfl, ha1, ha0⟩ := elem_cells h0
    obtain ⟨b1, b0, rfl, rfl, hb1, hb0⟩ := elem_cells h1
    exact ⟨(a1, a0), (b1, b0), rfl, ⟨ha1, ha0⟩, hb1, hb0⟩
end Go.Proofs.Ytnecjkdlmecgdaa

/- Arguments that are a space (a level and a basis), coefficients and an element, or a polynomial, opened. -/
namespace Go.Proofs.Ytnecjkdlmecgdaa
open Go.ChangeShapes Go.WideShapes Go.ChangeAt Go.RowKit Go.Joins
variable {H : Type} {enc : TypeId × Value → H} {W : World}

theorem arrSp2 {α : Type} {cs : Array α} (h : cs.size = 2) : ∃ c0 c1, cs = #[c0, c1] := by
  obtain ⟨l⟩ := cs
  match l, h with
  | [c0, c1], _ => exact ⟨c0, c1, rfl⟩
theorem arrSp3 {α : Type} {cs : Array α} (h : cs.size = 3) : ∃ c0 c1 c2, cs = #[c0, c1, c2] := by
  obtain ⟨l⟩ := cs
  match l, h with
  | [c0, c1, c2], _ => exact ⟨c0, c1, c2, rfl⟩
theorem arrSp5 {α : Type} {cs : Array α} (h : cs.size = 5) : ∃ c0 c1 c2 c3 c4, cs = #[c0, c1, c2, c3, c4] := by
  obtain ⟨l⟩ := cs
  match l, h with
  | [c0, c1, c2, c3, c4], _ => exact ⟨c0, c1, c2, c3, c4, rfl⟩
set_option maxRecDepth 100000 in
theorem space_val {n : Nat} {c0 c1 : Value} {y : DataW H × List MemPlace} (h : DataW.trod enc Try.prog W 0 (fun _ => true) true n 24 [c0, c1] = some y) :
    ∃ (l : Int) (a : Option Addr) (cap : Nat) (es : List (Nat × Nat)), c0 = .int .i64 l ∧ c1 = .slice a es.length cap ∧ ltE es ∧ ERow W a es ∧ (a = none → es.length = 0 ∧ cap = 0) ∧ es.length ≤ cap := by
  obtain ⟨y0, y1, m, hx, _, h0, h1⟩ := trod_struct2 Try.underlying24 h
  have k1 : Try.prog.cellsOf 3 = 1 := by kernel_rfl
  simp [k1] at h0 h1
  obtain ⟨i0, e0, _, _⟩ := DataW.trod_int Try.underlying3 h0
  simp at e0
  subst e0
  obtain ⟨z, zcap, es, rfl, _, q5, q6, q7, q8⟩ := elems_val h1
  exact ⟨i0, z, zcap, es, rfl, rfl, q5, q6, q7, q8⟩
set_option maxRecDepth 100000 in
/-- A space by value. -/
theorem open_space {r : Reach} {b0 : Nat} {v : Value} {d : DataW H} {p : List MemPlace} (hv : Value.okWide Try.prog W r b0 24 v) (h : DataW.Trod enc Try.prog W 0 (fun _ => true) true 24 v d p) :
    ∃ (l : Int) (a : Option Addr) (cap : Nat) (es : List (Nat × Nat)), v = .agg #[.int .i64 l, .slice a es.length cap] ∧ ltE es ∧ ERow W a es ∧ (a = none → es.length = 0 ∧ cap = 0) ∧ es.length ≤ cap := by
  obtain ⟨cs, rfl, hsz⟩ := okWide_struct Try.underlying24 hv
  obtain ⟨c0, c1, rfl⟩ := arrSp2 (hsz.trans (by kernel_rfl))
  obtain ⟨fuel, hf⟩ := h
  obtain ⟨l, a, cap, es, rfl, rfl, q⟩ := space_val (c0 := c0) (c1 := c1) (by simpa [Value.cells] using hf)
  exact ⟨l, a, cap, es, rfl, q⟩
set_option maxRecDepth 100000 in
/-- Coefficients and an element by value. -/
theorem open_coeffs {r : Reach} {b0 : Nat} {v : Value} {d : DataW H} {p : List MemPlace} (hv : Value.okWide Try.prog W r b0 52 v) (h : DataW.Trod enc Try.prog W 0 (fun _ => true) true 52 v d p) :
    ∃ (a : Option Addr) (cap : Nat) (cs : List (Nat × Nat)) (x : Nat × Nat), v = .agg #[.slice a cs.length cap, .int .u64 (x.1 : Int), .int .u64 (x.2 : Int)] ∧ (ltE cs ∧ ERow W a cs ∧ (a = none → cs.length = 0 ∧ cap = 0)) ∧ x.1 < 2 ^ 64 ∧ x.2 < 2 ^ 64 := by
  obtain ⟨cs, rfl, hsz⟩ := okWide_struct Try.underlying52 hv
  obtain ⟨c0, c1, c2, rfl⟩ := arrSp3 (hsz.trans (by kernel_rfl))
  obtain ⟨fuel, hf⟩ := h
  obtain ⟨y0, y1, m, hx, _, h0, h1⟩ := trod_struct2 Try.underlying52 hf
  have k1 : Try.prog.cellsOf 22 = 1 := by kernel_rfl
  simp [k1, Value.cells] at h0 h1
  obtain ⟨a, cap, es, rfl, _, q5, q6, q7, _⟩ := elems_val h0
  obtain ⟨xh, xl, rfl, rfl, g1, g2⟩ := elem_cells h1
  exact ⟨a, cap, es, (xh, xl), rfl, ⟨q5, q6, q7⟩, g1, g2⟩
set_option maxRecDepth 100000 in
/-- A polynomial by value. -/
theorem open_poly {r : Reach} {b0 : Nat} {v : Value} {d : DataW H} {p : List MemPlace} (hv : Value.okWide Try.prog W r b0 61 v) (h : DataW.Trod enc Try.prog W 0 (fun _ => true) true 61 v d p) :
    ∃ (l : Int) (a : Option Addr) (cap : Nat) (es : List (Nat × Nat)) (ad : Option Addr) (cd : Nat) (ds : List (Nat × Nat)) (x : Nat × Nat), v = .agg #[.int .i64 l, .slice a es.length cap, .slice ad ds.length cd, .int .u64 (x.1 : Int), .int .u64 (x.2 : Int)] ∧ (ltE es ∧ ERow W a es ∧ (a = none → es.length = 0 ∧ cap = 0) ∧ es.length ≤ cap) ∧ (ltE ds ∧ ERow W ad ds ∧ (ad = none → ds.length = 0 ∧ cd = 0) ∧ ds.length ≤ cd) ∧ x.1 < 2 ^ 64 ∧ x.2 < 2 ^ 64 := by
  obtain ⟨cs, rfl, hsz⟩ := okWide_struct Try.underlying61 hv
  obtain ⟨c0, c1, c2, c3, c4, rfl⟩ := arrSp5 (hsz.trans (by kernel_rfl))
  obtain ⟨fuel, hf⟩ := h
  obtain ⟨y0, y1, y2, m, hx, _, h0, h1, h2⟩ := Go.Deep.trod_struct3 Try.underlying61 hf
  have k1 : Try.prog.cellsOf 22 = 1 := by kernel_rfl
  have k2 : Try.prog.cellsOf 24 = 2 := by kernel_rfl
  simp [k1, k2, Value.cells] at h0 h1 h2
  obtain ⟨l, a, cap, es, rfl, rfl, q⟩ := space_val h0
  obtain ⟨ad, cd, ds, rfl, _, q5, q6, q7, q8⟩ := elems_val h1
  obtain ⟨xh, xl, rfl, rfl, g1, g2⟩ := elem_cells h2
  exact ⟨l, a, cap, es, ad, cd, ds, (xh, xl), rfl, q, ⟨q5, q6, q7, q8⟩, g1, g2⟩
end Go.Proofs.Ytnecjkdlmecgdaa
