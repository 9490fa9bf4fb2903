/- Contracts of octet.ofLowFirst, (*octet.Reader).Elem and Elems over the seat's translation. -/
import Derived.Test.YtjllijoiakccpaaOrB
import Derived.Test.YtjllijoiakccpaaPOctC
import Derived.BigRegion
namespace Go.Proofs.Ytjllijoiakccpaa
open Go.RowKit

/-- A byte of a text. -/
def byt (s : ByteArray) (i : Nat) : Nat := (s.data.getD i 0).toNat
theorem byt_lt (s : ByteArray) (i : Nat) : byt s i < 256 := by unfold byt; exact UInt8.toNat_lt _
/-- The halves of an element, of the first so many bytes. -/
def lwv (s : ByteArray) : Nat → Nat × Nat
  | 0 => (0, 0)
  | i + 1 => if i < 8 then ((lwv s i).1, (lwv s i).2 + byt s i * 2 ^ (8 * i)) else ((lwv s i).1 + byt s i * 2 ^ (8 * (i - 8)), (lwv s i).2)
theorem lwv_lo (s : ByteArray) : ∀ i, i ≤ 8 → (lwv s i).1 = 0 ∧ (lwv s i).2 < 2 ^ (8 * i)
  | 0, _ => ⟨rfl, by show 0 < 2 ^ (8 * 0); decide⟩
  | i + 1, h => by
    have ih := lwv_lo s i (by omega)
    have hb := byt_lt s i
    unfold lwv
    rw [if_pos (by omega)]
    refine ⟨ih.1, ?_⟩
    show (lwv s i).2 + byt s i * 2 ^ (8 * i) < 2 ^ (8 * (i + 1))
    rw [show 8 * (i + 1) = 8 * i + 8 by omega, Nat.pow_add]
    have : byt s i * 2 ^ (8 * i) ≤ 255 * 2 ^ (8 * i) := Nat.mul_le_mul_right _ (by omega)
    have h2 := ih.2
    generalize 2 ^ (8 * i) = p at *
    omega
theorem lwv_hi (s : ByteArray) : ∀ i, i ≤ 8 → (lwv s (8 + i)).1 < 2 ^ (8 * i) ∧ (lwv s (8 + i)).2 < 2 ^ 64
  | 0, _ => by
    have h := lwv_lo s 8 (Nat.le_refl _)
    exact ⟨by show (lwv s 8).1 < _; rw [h.1]; decide, h.2⟩
  | i + 1, h => by
    have ih := lwv_hi s i (by omega)
    have hb := byt_lt s (8 + i)
    show (lwv s ((8 + i) + 1)).1 < _ ∧ (lwv s ((8 + i) + 1)).2 < _
    unfold lwv
    rw [if_neg (by omega)]
    refine ⟨?_, ih.2⟩
    show (lwv s (8 + i)).1 + byt s (8 + i) * 2 ^ (8 * (8 + i - 8)) < 2 ^ (8 * (i + 1))
    rw [show 8 * (i + 1) = 8 * i + 8 by omega, Nat.pow_add, show 8 + i - 8 = i by omega]
    have : byt s (8 + i) * 2 ^ (8 * i) ≤ 255 * 2 ^ (8 * i) := Nat.mul_le_mul_right _ (by omega)
    have h2 := ih.1
    generalize 2 ^ (8 * i) = p at *
    omega
theorem Ew.setLo {w : World} {q h l : Nat} (e : Ew w q h l) (x : Nat) : Ew (w.setCell ⟨q, 1, none⟩ (.int .u64 (x : Int))).drew q h x := by
  obtain ⟨⟨h1, h0⟩, f1, f0⟩ := e
  exact ⟨⟨by simp [go_sem, *], by simp [go_sem, *]⟩, by simp [go_sem, *], by simp [go_sem, *]⟩
theorem Ew.setHi {w : World} {q h l : Nat} (e : Ew w q h l) (x : Nat) : Ew (w.setCell ⟨q, 0, none⟩ (.int .u64 (x : Int))).drew q x l := by
  obtain ⟨⟨h1, h0⟩, f1, f0⟩ := e
  exact ⟨⟨by simp [go_sem, *], by simp [go_sem, *]⟩, by simp [go_sem, *], by simp [go_sem, *]⟩
theorem Ew.offO {w : World} {q r h l o : Nat} (e : Ew w r h l) (hn : r < q) (v : Value) : Ew (w.setCell ⟨q, o, none⟩ v).drew r h l := by
  obtain ⟨⟨h1, h0⟩, f1, f0⟩ := e
  have hn1 : ¬ q = r := by omega
  have hn2 : ¬ r = q := by omega
  exact ⟨⟨by simp [go_sem, *], by simp [go_sem, *]⟩, by simp [go_sem, *], by simp [go_sem, *]⟩
theorem or_disj (x y n : Nat) (hx : x < 2 ^ n) (hn : n + 8 ≤ 64) (hy : y < 256) : bits .or .u64 (x : Int) (IntKind.u64.wrap ((y : Int) * 2 ^ n)) = ((x + y * 2 ^ n : Nat) : Int) := by
  have hp : 2 ^ (n + 8) ≤ 2 ^ 64 := Nat.pow_le_pow_right (by decide) hn
  rw [Nat.pow_add] at hp
  have h1 : y * 2 ^ n < 2 ^ 64 := by
    have : y * 2 ^ n ≤ 255 * 2 ^ n := Nat.mul_le_mul_right _ (by omega)
    have h0 : 0 < 2 ^ n := Nat.two_pow_pos _
    omega
  have h2 : x < 2 ^ 64 := Nat.lt_of_lt_of_le hx (Nat.pow_le_pow_right (by decide) (by omega))
  have e2 : IntKind.u64.wrap ((y : Int) * 2 ^ n) = ((y * 2 ^ n : Nat) : Int) := by
    rw [IntKind.wrap_u64, show (y : Int) * 2 ^ n = ((y * 2 ^ n : Nat) : Int) by simp]
    omega
  rw [e2, u64_or_nat _ _ (by simpa using h2) (by simpa using h1)]
  have h3 := Nat.two_pow_add_eq_or_of_lt hx y
  rw [Nat.mul_comm y, Nat.or_comm, ← h3, Nat.add_comm]
end Go.Proofs.Ytjllijoiakccpaa
