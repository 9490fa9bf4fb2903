/- steeplelaw33.FrobPowers gives true, whatever the input. -/
import Derived.Test.YtakaconhoodigaaFrI
import Derived.Test.YtakaconhoodigaaRows
import Derived.Test.YtakaconhoodigaaTwBl
import Derived.ProofKit
import Derived.OpenShut
import Derived.ShutString
import Derived.ChangeOld
import Derived.Lib.SmallJoins
namespace Go.Proofs.Ytakaconhoodigaa
open Go.RowKit
open Cb
open Tw (pm)

theorem fp_any (l n : Int) (a : Nat × Nat) (la : lt2 a) : Ret 3 #[.int .i64 l, .agg #[.int .u64 (a.1 : Int), .int .u64 (a.2 : Int)], .int .i64 n] (.bool true) := by
  have HO := rof_any l a.1 a.2 la.1 la.2
  cases h : ofB l (a.1 : Int) (a.2 : Int)
  · rw [h] at HO
    exact fp_no l n a (0, 0) (0, 0) (Power_no l n a la h) (Root_no l a la h) HO rfl rfl
  · rw [h] at HO
    obtain ⟨k, hk, rfl⟩ : ∃ k : Nat, k < 8 ∧ l = (k : Int) := by
      rcases level_cases l (levelB_of h) with rfl | rfl | rfl | rfl | rfl | rfl | rfl | rfl
      · exact ⟨0, by decide, rfl⟩
      · exact ⟨1, by decide, rfl⟩
      · exact ⟨2, by decide, rfl⟩
      · exact ⟨3, by decide, rfl⟩
      · exact ⟨4, by decide, rfl⟩
      · exact ⟨5, by decide, rfl⟩
      · exact ⟨6, by decide, rfl⟩
      · exact ⟨7, by decide, rfl⟩
    have lr := lt_sqv la (2 ^ k - 1)
    have HR := Root_in k hk a la h
    have HV := of_ret (k : Int) (sqv a (2 ^ k - 1)).1 (sqv a (2 ^ k - 1)).2 lr.2
    rw [show ofB (k : Int) ((sqv a (2 ^ k - 1)).1 : Int) ((sqv a (2 ^ k - 1)).2 : Int) = true from of_sqv hk h _] at HV
    have HX := rproduct_any (sqv a (2 ^ k - 1)).1 (sqv a (2 ^ k - 1)).2 (sqv a (2 ^ k - 1)).1 (sqv a (2 ^ k - 1)).2 lr.1 lr.2 lr.1 lr.2
    have hsq := root_sq k hk a la h
    have h1 : Tw.pmh (sqv a (2 ^ k - 1)).1 (sqv a (2 ^ k - 1)).2 (sqv a (2 ^ k - 1)).1 (sqv a (2 ^ k - 1)).2 = a.1 := congrArg Prod.fst hsq
    have h2 : Tw.pml (sqv a (2 ^ k - 1)).1 (sqv a (2 ^ k - 1)).2 (sqv a (2 ^ k - 1)).1 (sqv a (2 ^ k - 1)).2 = a.2 := congrArg Prod.snd hsq
    rw [h1, h2] at HX
    have HT := rtwoF k (by omega)
    by_cases hn : n < 0
    · exact fp_neg (k : Int) n a (0, 0) (sqv a (2 ^ k - 1)) (Power_far k hk n a la h (.inl hn)) HR HO HV HX rfl hn
    · by_cases hn2 : ((2 ^ k : Nat) : Int) ≤ n
      · exact fp_far (k : Int) n a (0, 0) (sqv a (2 ^ k - 1)) (Power_far k hk n a la h (.inr hn2)) HR HO HV HX _ HT rfl hn hn2
      · obtain ⟨m, rfl⟩ : ∃ m : Nat, n = (m : Int) := ⟨n.toNat, by omega⟩
        have hm : m < 2 ^ k := by omega
        have h128 : 2 ^ k ≤ 128 := Nat.pow_le_pow_right (by decide) (show k ≤ 7 by omega)
        exact fp_in (k : Int) (m : Int) a (sqv a m) (sqv a (2 ^ k - 1)) (Power_in k hk m a la h hm) HR HO HV HX _ HT (rpow33 m (by omega) a la) hn hn2
end Go.Proofs.Ytakaconhoodigaa

/- Arguments that are elements, or three elements, opened: their values written out, with the bounds of their words. -/
namespace Go.Proofs.Ytakaconhoodigaa
open Go.ChangeShapes Go.WideShapes Go.ChangeAt Go.RowKit Go.Joins

theorem own : ownKnob Try.prog.godebug = none := by kernel_rfl
theorem laidOut : laidOutB Try.prog = true := by kernel_rfl

theorem word_nat {n : Int} (h : (Lit.int .u64 n).wf = true) : ∃ m : Nat, n = (m : Int) ∧ m < 2 ^ 64 := by
  have h2 : 0 ≤ n ∧ n < 18446744073709551616 := by
    have := h
    simp [Lit.wf] at this
    have e1 : IntKind.u64.min = 0 := by decide
    have e2 : IntKind.u64.max = 18446744073709551615 := by decide
    rw [e1, e2] at this
    omega
  exact ⟨n.toNat, by omega, by omega⟩

variable {H : Type} {enc : TypeId × Value → H} {w : World} {base : Nat} {spare : Nat → Bool} {held : Bool}

theorem elem_cells {n : Nat} {c0 c1 : Value} {y : DataW H × List MemPlace} (h : DataW.trod enc Try.prog w base spare held n 24 [c0, c1] = some y) :
    ∃ a b : Nat, c0 = .int .u64 (a : Int) ∧ c1 = .int .u64 (b : Int) ∧ a < 2 ^ 64 ∧ b < 2 ^ 64 := by
  obtain ⟨y0, y1, m, hx, _, h0, h1⟩ := trod_struct2 Try.underlying24 h
  have k0 : Try.prog.cellsOf 22 = 1 := by kernel_rfl
  simp [k0] at h0 h1
  obtain ⟨a, e0, _, w0⟩ := DataW.trod_int Try.underlying22 h0
  obtain ⟨b, e1, _, w1⟩ := DataW.trod_int Try.underlying22 h1
  obtain ⟨a', rfl, ha⟩ := word_nat w0
  obtain ⟨b', rfl, hb⟩ := word_nat w1
  simp at e0 e1
  exact ⟨a', b', e0, e1, ha, hb⟩
set_option maxRecDepth 100000 in
/-- An element by value. -/
theorem open_elem {r : Reach} {b0 : Nat} {v : Value} {d : DataW H} {p : List MemPlace} (hv : Value.okWide Try.prog w r b0 24 v) (h : DataW.Trod enc Try.prog w base spare held 24 v d p) :
    ∃ a b : Nat, v = .agg #[.int .u64 (a : Int), .int .u64 (b : Int)] ∧ a < 2 ^ 64 ∧ b < 2 ^ 64 := by
  obtain ⟨cs, rfl, hsz⟩ := okWide_struct Try.underlying24 hv
  obtain ⟨c0, c1, rfl⟩ := array2 (hsz.trans (by kernel_rfl))
  obtain ⟨fuel, hf⟩ := h
  obtain ⟨a, b, rfl, rfl, ha, hb⟩ := elem_cells (y := (d, p)) (n := fuel) (c0 := c0) (c1 := c1) (by simpa [Value.cells] using hf)
  exact ⟨a, b, rfl, ha, hb⟩
end Go.Proofs.Ytakaconhoodigaa
