/- Contracts of tower's products with generators and of its squares of words, over the seat's translation. -/
import Derived.Test.YtghapohempogkaaProg
import Derived.Test.YtghapohempogkaaTwM
import Derived.WalkKit
import Derived.WalkLawsBesides
import Derived.WalkSpells
import Derived.Handy
import Derived.RegionTactic
import Derived.ChangeAlike
import Derived.Deep.QuietTactic
import Derived.BigQuiet
import Derived.BigRegion
namespace Go.Proofs.Ytghapohempogkaa
open Go.RowKit
open Tw (px)

theorem i_hi (n m P L : Nat) (hP : P = 2 ^ m) (hn : n < 2 ^ 64) (hL : L < 2 ^ 64) : bits .and .u64 ((n : Int) / (P : Int)) (L : Int) = ((n >>> m &&& L : Nat) : Int) := by
  have h1 : n / 2 ^ m < 2 ^ 64 := Nat.lt_of_le_of_lt (Nat.div_le_self _ _) hn
  rw [hP, ← Int.natCast_ediv, u64_and_nat _ _ h1 hL, Nat.shiftRight_eq_div_pow]
theorem i_res (n m P L t : Nat) (hP : P = 2 ^ m) (hn : n < 2 ^ 64) (hL : L * P < 2 ^ 64) (ht : t < 2 ^ 64) (hx : ((n &&& L) ^^^ t) ≤ L) :
    bits .or .u64 (IntKind.u64.wrap (bits .xor .u64 (bits .and .u64 (n : Int) (L : Int)) (t : Int) * (P : Int))) ((n >>> m &&& L : Nat) : Int) = (((((n &&& L) ^^^ t) <<< m) ||| (n >>> m &&& L) : Nat) : Int) := by
  have hp : 1 ≤ P := by rw [hP]; exact Nat.one_le_two_pow
  have hL1 : L < 2 ^ 64 := Nat.lt_of_le_of_lt (Nat.le_mul_of_pos_right L hp) hL
  have h1 : (n &&& L) < 2 ^ 64 := Nat.lt_of_le_of_lt Nat.and_le_right hL1
  have h2 : (n >>> m &&& L) < 2 ^ 64 := Nat.lt_of_le_of_lt Nat.and_le_right hL1
  have h3 : ((n &&& L) ^^^ t) * P < 2 ^ 64 := Nat.lt_of_le_of_lt (Nat.mul_le_mul_right P hx) hL
  rw [u64_and_nat _ _ hn hL1, u64_xor_nat _ _ h1 ht, ← Int.natCast_mul, IntKind.wrap_u64]
  have e : ((((n &&& L) ^^^ t) * P : Nat) : Int) % 18446744073709551616 = ((((n &&& L) ^^^ t) * P : Nat) : Int) := by omega
  rw [e, u64_or_nat _ _ h3 h2, Nat.shiftLeft_eq, hP]

theorem hi6n (n : Nat) (h : n < 2 ^ 64) : n >>> 32 &&& Tw.L6 = n / 4294967296 := by
  have e : Tw.L6 = 2 ^ 32 - 1 := by decide
  rw [e, Nat.and_two_pow_sub_one_eq_mod, Nat.shiftRight_eq_div_pow]
  omega
theorem hi6 (n : Nat) (h : n < 2 ^ 64) : (n : Int) / 4294967296 = ((n >>> 32 &&& Tw.L6 : Nat) : Int) := by
  rw [hi6n n h]
  omega
/-- The bit that is the generator of a level (of level 0, and of what is none: 1). -/
def gbit (l : Int) : Nat := if l = 1 then 2 else if l = 2 then 4 else if l = 3 then 16 else if l = 4 then 256 else if l = 5 then 65536 else if l = 6 then 4294967296 else 1
end Go.Proofs.Ytghapohempogkaa

/- Contract of tower.squares over the seat's translation. -/
namespace Go.Proofs.Ytghapohempogkaa
open Go.RowKit
open Tw (px)

theorem i_sq (n m P L t : Nat) (hP : P = 2 ^ m) (hn : n < 2 ^ 64) (hL : L * P < 2 ^ 64) (ht : t &&& L = t) (hd : (L <<< m) &&& L = 0) :
    bits .xor .u64 (bits .or .u64 (IntKind.u64.wrap ((t : Int) * (P : Int))) (bits .and .u64 (n : Int) (L : Int))) ((n >>> m &&& L : Nat) : Int) = ((((t <<< m) ^^^ (n &&& L)) ^^^ (n >>> m &&& L) : Nat) : Int) := by
  have hp : 1 ≤ P := by rw [hP]; exact Nat.one_le_two_pow
  have hL1 : L < 2 ^ 64 := Nat.lt_of_le_of_lt (Nat.le_mul_of_pos_right L hp) hL
  have h1 : (n &&& L) < 2 ^ 64 := Nat.lt_of_le_of_lt Nat.and_le_right hL1
  have h2 : (n >>> m &&& L) < 2 ^ 64 := Nat.lt_of_le_of_lt Nat.and_le_right hL1
  have h0 : t ≤ L := by rw [← ht]; exact Nat.and_le_right
  have h3 : t * P < 2 ^ 64 := Nat.lt_of_le_of_lt (Nat.mul_le_mul_right P h0) hL
  have e : ((t * P : Nat) : Int) % 18446744073709551616 = ((t * P : Nat) : Int) := by omega
  have h4 : t * P ||| (n &&& L) < 2 ^ 64 := Nat.or_lt_two_pow h3 h1
  rw [u64_and_nat _ _ hn hL1, ← Int.natCast_mul, IntKind.wrap_u64, e, u64_or_nat _ _ h3 h1, u64_xor_nat _ _ h4 h2]
  rw [show t * P = t <<< m by rw [Nat.shiftLeft_eq, hP], Tw.lanes_or ht (Tw.and_and_self n L) hd]

end Go.Proofs.Ytghapohempogkaa

/- Contract of tower.multiples over the seat's translation: a word times each element of level 2. -/
namespace Go.Proofs.Ytghapohempogkaa
open Go.RowKit
open Tw (px)

theorem x_px (a b n : Nat) : bits .xor .u64 ((px a n : Nat) : Int) ((px b n : Nat) : Int) = ((px (a ^^^ b) n : Nat) : Int) := by
  rw [u64_xor_nat _ _ (Tw.px_lt a n) (Tw.px_lt b n), Tw.px_comm a, Tw.px_comm b, Tw.px_comm (a ^^^ b), Tw.px_lin n a b]
theorem x_0 (a : Nat) (h : a < 2 ^ 64) : bits .xor .u64 0 (a : Int) = (a : Int) := by
  have := u64_xor_nat 0 a (by decide) h
  rw [Nat.zero_xor] at this
  exact this

/-- What stands at a place of the table when k places have been filled. -/
def mc (p : Nat → Nat) (k i : Nat) : Nat := if i < k ∨ i = 1 ∨ i = 2 ∨ i = 4 ∨ i = 8 then p i else 0
def marr (p : Nat → Nat) (k : Nat) : Array Value := ((List.range 16).map fun i => Value.int .u64 ((mc p k i : Nat) : Int)).toArray
theorem marr_get (p : Nat → Nat) (k i : Nat) (h : i < 16) : (marr p k)[i]? = some (.int .u64 ((mc p k i : Nat) : Int)) := by
  unfold marr; simp [h]
theorem marr_set (p : Nat → Nat) (k : Nat) : (marr p k).setIfInBounds k (.int .u64 ((p k : Nat) : Int)) = marr p (k + 1) := by
  apply Array.ext_getElem?
  intro i
  rw [Array.getElem?_setIfInBounds]
  by_cases hi : i < 16
  · by_cases hk : k = i
    · subst hk
      rw [if_pos rfl, marr_get p (k + 1) k hi]
      have : mc p (k + 1) k = p k := by unfold mc; rw [if_pos (by omega)]
      rw [this]
      simp [marr, hi]
    · rw [if_neg hk, marr_get p k i hi, marr_get p (k + 1) i hi]
      have : mc p (k + 1) i = mc p k i := by unfold mc; congr 1; apply propext; omega
      rw [this]
  · have e1 : (marr p k)[i]? = none := by unfold marr; simp; omega
    have e2 : (marr p (k + 1))[i]? = none := by unfold marr; simp; omega
    by_cases hk : k = i
    · subst hk
      have : ¬ k < (marr p k).size := by unfold marr; simp; omega
      rw [if_pos rfl, if_neg this, e2]
    · rw [if_neg hk, e1, e2]
/-- The lowest bit of a number below 16. -/
def lowb (k : Nat) : Nat := if k % 2 = 1 then 1 else if k % 4 = 2 then 2 else if k % 8 = 4 then 4 else if k % 16 = 8 then 8 else 0
theorem low_and (k : Nat) (h : k < 16) : bits .and .i64 (k : Int) (-(k : Int)) = (lowb k : Int) := by
  have all : ∀ j : Fin 16, bits .and .i64 (j.val : Int) (-(j.val : Int)) = (lowb j.val : Int) := by decide +kernel
  exact all ⟨k, h⟩
theorem low_xor (k : Nat) (h : k < 16) : lowb k ≤ k ∧ (k - lowb k) ^^^ lowb k = k ∧ (k - lowb k < k ∨ k - lowb k = 0 ∧ (k = 0 ∨ k = 1 ∨ k = 2 ∨ k = 4 ∨ k = 8)) ∧ (lowb k < k ∨ lowb k = k ∧ (k = 0 ∨ k = 1 ∨ k = 2 ∨ k = 4 ∨ k = 8)) := by
  have all : ∀ j : Fin 16, lowb j.val ≤ j.val ∧ (j.val - lowb j.val) ^^^ lowb j.val = j.val ∧ (j.val - lowb j.val < j.val ∨ j.val - lowb j.val = 0 ∧ (j.val = 0 ∨ j.val = 1 ∨ j.val = 2 ∨ j.val = 4 ∨ j.val = 8)) ∧ (lowb j.val < j.val ∨ lowb j.val = j.val ∧ (j.val = 0 ∨ j.val = 1 ∨ j.val = 2 ∨ j.val = 4 ∨ j.val = 8)) := by decide +kernel
  exact all ⟨k, h⟩

theorem set_top (X : World) (A : Array Value) (T : TypeId) (n k : Nat) (v : Value) (b : Nat) (hb : b = X.heap.size) : ((X.alloc (.cells A T)).drewN n).setCell ⟨b, k, none⟩ v = (X.alloc (.cells (A.setIfInBounds k v) T)).drewN n := by
  have e : ((X.alloc (.cells A T)).drewN n).setCell ⟨b, k, none⟩ v = ((X.alloc (.cells A T)).setCell ⟨b, k, none⟩ v).drewN n := rfl
  rw [e, World.setCell_alloc_at A T b k v hb]
theorem marr_full (p : Nat → Nat) : marr p 16 = #[.int .u64 ((p 0 : Nat) : Int), .int .u64 ((p 1 : Nat) : Int), .int .u64 ((p 2 : Nat) : Int), .int .u64 ((p 3 : Nat) : Int), .int .u64 ((p 4 : Nat) : Int), .int .u64 ((p 5 : Nat) : Int), .int .u64 ((p 6 : Nat) : Int), .int .u64 ((p 7 : Nat) : Int), .int .u64 ((p 8 : Nat) : Int), .int .u64 ((p 9 : Nat) : Int), .int .u64 ((p 10 : Nat) : Int), .int .u64 ((p 11 : Nat) : Int), .int .u64 ((p 12 : Nat) : Int), .int .u64 ((p 13 : Nat) : Int), .int .u64 ((p 14 : Nat) : Int), .int .u64 ((p 15 : Nat) : Int)] := by
  unfold marr mc
  simp [List.range_succ]

end Go.Proofs.Ytghapohempogkaa
