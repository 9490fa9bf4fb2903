/- The products of the upper levels: tower's mul, words and lanes, over the seat's translation. -/
import Derived.Test.YtghapohempogkaaPShelfB
import Derived.Deep.RegionWith
import Derived.Deep.DeepCutAuto
import Derived.Deep.RegionHeld3
namespace Go.Proofs.Ytghapohempogkaa
open Go.RowKit
open Tw (px)

/-- The least level of which an element is. -/
def lvl (hi lo : Nat) : Int := if hi ≠ 0 then 7 else if lo < 2 then 0 else if lo < 4 then 1 else if lo < 16 then 2 else if lo < 256 then 3 else if lo < 65536 then 4 else if lo < 4294967296 then 5 else 6
theorem bitLen_of (x j : Nat) (h1 : 2 ^ j ≤ x) (h2 : x < 2 ^ (j + 1)) (h : x < 2 ^ 64) : Lib.bitLen x = j + 1 := by
  have e : x / 2 ^ j = 1 := by
    apply Nat.le_antisymm
    · have : x / 2 ^ j < 2 := by rw [Nat.div_lt_iff_lt_mul (Nat.two_pow_pos j)]; rw [Nat.pow_succ] at h2; omega
      omega
    · exact (Nat.one_le_div_iff (Nat.two_pow_pos j)).2 h1
  rw [Lib.bitLen_shift j x h1 h, e]
  rfl
theorem bitLen_range (x : Nat) (h : x ≠ 0) (hx : x < 2 ^ 64) : 1 ≤ Lib.bitLen x ∧ 2 ^ (Lib.bitLen x - 1) ≤ x ∧ x < 2 ^ Lib.bitLen x := by
  have e : Lib.bitLen x = x.log2 + 1 := bitLen_of x x.log2 (Nat.log2_self_le h) Nat.lt_log2_self hx
  rw [e]
  refine ⟨by omega, ?_, ?_⟩
  · simpa using Nat.log2_self_le h
  · exact Nat.lt_log2_self
theorem bitLen_le_iff (x k : Nat) (h : x ≠ 0) (hx : x < 2 ^ 64) : Lib.bitLen x ≤ k ↔ x < 2 ^ k := by
  obtain ⟨h1, h2, h3⟩ := bitLen_range x h hx
  constructor
  · intro hk; exact Nat.lt_of_lt_of_le h3 (Nat.pow_le_pow_right (by decide) hk)
  · intro hk
    have : 2 ^ (Lib.bitLen x - 1) < 2 ^ k := Nat.lt_of_le_of_lt h2 hk
    have := (Nat.pow_lt_pow_iff_right (by decide : 1 < 2)).1 this
    omega
theorem or_one (lo : Nat) : lo ||| 1 = 2 * (lo / 2) + 1 := by
  apply Nat.eq_of_testBit_eq
  intro i
  rw [Nat.testBit_or]
  cases i with
  | zero => simp [Nat.testBit]
  | succ i =>
    rw [Nat.testBit_succ, Nat.testBit_succ, Nat.testBit_succ]
    rw [show (2 * (lo / 2) + 1) / 2 = lo / 2 by omega]
    simp
theorem lvl_eq (lo : Nat) (h : lo < 2 ^ 64) : ((Lib.bitLen (Lib.bitLen (lo ||| 1) - 1) : Nat) : Int) = lvl 0 lo := by
  have hn := or_one lo
  have hz : lo ||| 1 ≠ 0 := by omega
  have hx : lo ||| 1 < 2 ^ 64 := Nat.or_lt_two_pow h (by decide)
  have I := fun k => bitLen_le_iff (lo ||| 1) k hz hx
  have hr := (bitLen_range _ hz hx).1
  have i1 := I 1; have i2 := I 2; have i4 := I 4; have i8 := I 8; have i16 := I 16; have i32 := I 32; have i64 := I 64
  simp only [hn, Nat.reducePow] at i1 i2 i4 i8 i16 i32 i64
  rw [hn] at hr ⊢
  generalize hB : Lib.bitLen (2 * (lo / 2) + 1) = B at *
  unfold lvl
  simp only [ne_eq, not_true_eq_false, if_false]
  have z : Lib.bitLen 0 = 0 := rfl
  by_cases h1 : lo < 2
  · rw [if_pos h1, show B - 1 = 0 by omega, z]; rfl
  rw [if_neg h1]
  by_cases h2 : lo < 4
  · rw [if_pos h2, bitLen_of (B - 1) 0 (by omega) (by omega) (by omega)]; rfl
  rw [if_neg h2]
  by_cases h3 : lo < 16
  · rw [if_pos h3, bitLen_of (B - 1) 1 (by omega) (by omega) (by omega)]; rfl
  rw [if_neg h3]
  by_cases h4 : lo < 256
  · rw [if_pos h4, bitLen_of (B - 1) 2 (by omega) (by omega) (by omega)]; rfl
  rw [if_neg h4]
  by_cases h5 : lo < 65536
  · rw [if_pos h5, bitLen_of (B - 1) 3 (by omega) (by omega) (by omega)]; rfl
  rw [if_neg h5]
  by_cases h6 : lo < 4294967296
  · rw [if_pos h6, bitLen_of (B - 1) 4 (by omega) (by omega) (by omega)]; rfl
  rw [if_neg h6, bitLen_of (B - 1) 5 (by omega) (by omega) (by omega)]; rfl

open Tw (px)

/-- Two elements and a place for a third lie in three blocks. -/
def Box3 (X : Nat) (ah al bh bl : Nat) (w : World) : Prop := w.heap[X]? = some (.cells #[.int .u64 (ah : Int), .int .u64 (al : Int)] 65) ∧ w.heap[X + 1]? = some (.cells #[.int .u64 (bh : Int), .int .u64 (bl : Int)] 65) ∧ w.heap[X + 1 + 1]? = some (.cells #[.int .u64 0, .int .u64 0] 65)
theorem heap_keep {w w1 : World} {g : Nat} {o : Obj} (h : w.heap[g]? = some o) (k : Below w.heap.size w w1) : w1.heap[g]? = some o := by
  have hl : g < w.heap.size := by
    rcases Nat.lt_or_ge g w.heap.size with h1 | h1
    · exact h1
    · rw [Array.getElem?_eq_none h1] at h; cases h
  rw [k.block g hl]; exact h
theorem Box3.below {X ah al bh bl : Nat} {w w1 : World} (h : Box3 X ah al bh bl w) (k : Below w.heap.size w w1) : Box3 X ah al bh bl w1 :=
  ⟨heap_keep h.1 k, heap_keep h.2.1 k, heap_keep h.2.2 k⟩
theorem Box3.facts {X ah al bh bl : Nat} {w : World} (h : Box3 X ah al bh bl w) :
    w.cell? ⟨X, 0, none⟩ = some (.int .u64 (ah : Int)) ∧ w.cell? ⟨X, 1, none⟩ = some (.int .u64 (al : Int)) ∧ w.cell? ⟨X + 1, 0, none⟩ = some (.int .u64 (bh : Int)) ∧ w.cell? ⟨X + 1, 1, none⟩ = some (.int .u64 (bl : Int)) ∧ w.cell? ⟨X + 1 + 1, 0, none⟩ = some (.int .u64 0) ∧ w.cell? ⟨X + 1 + 1, 1, none⟩ = some (.int .u64 0) ∧ (∀ o, w.frozen? ⟨X, o, none⟩ = false) ∧ (∀ o, w.frozen? ⟨X + 1, o, none⟩ = false) ∧ (∀ o, w.frozen? ⟨X + 1 + 1, o, none⟩ = false) := by
  obtain ⟨h1, h2, h3⟩ := h
  simp [World.cell?, World.frozen?, h1, h2, h3]
theorem Box3.drew {X ah al bh bl : Nat} {w : World} (h : Box3 X ah al bh bl w) : Box3 X ah al bh bl w.drew := h
theorem Box3.lt {X ah al bh bl : Nat} {w : World} (h : Box3 X ah al bh bl w) : X + 1 + 1 < w.heap.size := by
  rcases Nat.lt_or_ge (X + 1 + 1) w.heap.size with h1 | h1
  · exact h1
  · have := h.2.2; rw [Array.getElem?_eq_none h1] at this; cases this
theorem push_old (A : Array Obj) (o : Obj) (i : Nat) (h : i < A.size) : (A.push o)[i]? = A[i]? := by rw [Array.getElem?_push, if_neg (by omega)]
theorem push_new (A : Array Obj) (o : Obj) (i : Nat) (h : i = A.size) : (A.push o)[i]? = some o := by rw [Array.getElem?_push, if_pos h]
theorem box3_new (W : World) (ah al bh bl : Nat) (o4 o5 : Obj) (n : Nat) : Box3 W.heap.size ah al bh bl ((((((W.alloc (Obj.cells #[.int .u64 (ah : Int), .int .u64 (al : Int)] 65)).alloc (Obj.cells #[.int .u64 (bh : Int), .int .u64 (bl : Int)] 65)).alloc (Obj.cells #[.int .u64 0, .int .u64 0] 65)).alloc o4).alloc o5).drewN n) := by
  refine ⟨?_, ?_, ?_⟩
  · show (((((W.heap.push _).push _).push _).push o4).push o5)[W.heap.size]? = _
    rw [push_old _ _ _ (by simp <;> omega), push_old _ _ _ (by simp <;> omega), push_old _ _ _ (by simp <;> omega), push_old _ _ _ (by simp <;> omega)]
    exact push_new _ _ _ rfl
  · show (((((W.heap.push _).push _).push _).push o4).push o5)[W.heap.size + 1]? = _
    rw [push_old _ _ _ (by simp <;> omega), push_old _ _ _ (by simp <;> omega), push_old _ _ _ (by simp <;> omega)]
    exact push_new _ _ _ (by simp)
  · show (((((W.heap.push _).push _).push _).push o4).push o5)[W.heap.size + 1 + 1]? = _
    rw [push_old _ _ _ (by simp <;> omega), push_old _ _ _ (by simp <;> omega)]
    exact push_new _ _ _ (by simp)
theorem below_new (W : World) (o1 o2 o3 o4 o5 : Obj) (n : Nat) : Below W.heap.size W (((((((W.alloc o1).alloc o2).alloc o3).alloc o4).alloc o5)).drewN n) :=
  below_drewN ((((((Below.refl _ _).alloc (Nat.le_refl _) _).alloc (by simp <;> omega) _).alloc (by simp <;> omega) _).alloc (by simp <;> omega) _).alloc (by simp <;> omega) _) n

open Tw (px)

theorem heap_set {w : World} {b o : Nat} {v : Value} {c : Array Value} {T : TypeId} (h : w.heap[b]? = some (.cells c T)) : (w.setCell ⟨b, o, none⟩ v).heap[b]? = some (.cells (c.setIfInBounds o v) T) := by
  simp [World.setCell, Array.getElem?_modify, h]
theorem heap_set_other {w : World} {b k o : Nat} {v : Value} {x : Obj} (h : w.heap[k]? = some x) (hn : k ≠ b) : (w.setCell ⟨b, o, none⟩ v).heap[k]? = some x := by
  rw [Below.heap_setCell w ⟨b, o, none⟩ v k hn]; exact h
theorem box3_swap {X ah al bh bl : Nat} {wc : World} (h : Box3 X ah al bh bl wc) : Box3 X bh bl ah al ((((wc.setCell ⟨X, 0, none⟩ (.int .u64 (bh : Int))).setCell ⟨X, 1, none⟩ (.int .u64 (bl : Int))).setCell ⟨X + 1, 0, none⟩ (.int .u64 (ah : Int))).setCell ⟨X + 1, 1, none⟩ (.int .u64 (al : Int))) := by
  obtain ⟨h1, h2, h3⟩ := h
  refine ⟨?_, ?_, ?_⟩
  · exact heap_set_other (heap_set_other (heap_set (heap_set h1)) (by omega)) (by omega)
  · exact heap_set (heap_set (heap_set_other (heap_set_other h2 (by omega)) (by omega)))
  · exact heap_set_other (heap_set_other (heap_set_other (heap_set_other h3 (by omega)) (by omega)) (by omega)) (by omega)

end Go.Proofs.Ytghapohempogkaa
