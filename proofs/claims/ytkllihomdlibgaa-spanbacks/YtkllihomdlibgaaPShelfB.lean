/- Contracts of tower's products with generators and of its squares of words, over the seat's translation. -/
import Derived.Test.YtkllihomdlibgaaProg
import Derived.Test.YtkllihomdlibgaaTwM
import Derived.WalkKit
import Derived.WalkLawsBesides
import Derived.WalkSpells
import Derived.Handy
import Derived.RegionTactic
import Derived.ChangeAlike
import Derived.Deep.QuietTactic
import Derived.BigQuiet
import Derived.BigRegion
import Derived.Shelf.Small.Bits
import Derived.Shelf.Strconv.Itoa0
namespace Go.Proofs.Ytkllihomdlibgaa
open Go.RowKit
open Tw (px)

theorem i_hi (n m P L : Nat) (hP : P = 2 ^ m) (hn : n < 2 ^ 64) (hL : L < 2 ^ 64) : bits .and .u64 ((n : Int) / (P : Int)) (L : Int) = ((n >>> m &&& L : Nat) : Int) := by
  have h1 : n / 2 ^ m < 2 ^ 64 := Nat.lt_of_le_of_lt (Nat.div_le_self _ _) hn
  rw [hP, ← Int.natCast_ediv, u64_and_nat _ _ h1 hL, Nat.shiftRight_eq_div_pow]
theorem i_res (n m P L t : Nat) (hP : P = 2 ^ m) (hn : n < 2 ^ 64) (hL : L * P < 2 ^ 64) (ht : t < 2 ^ 64) (hx : ((n &&& L) ^^^ t) ≤ L) :
    bits .or .u64 (IntKind.u64.wrap (bits .xor .u64 (bits .and .u64 (n : Int) (L : Int)) (t : Int) * (P : Int))) ((n >>> m &&& L : Nat) : Int) = (((((n &&& L) ^^^ t) <<< m) ||| (n >>> m &&& L) : Nat) : Int) := by
  have hp : 1 ≤ P := by rw [hP]; exact Nat.one_le_two_pow
  have hL1 : L < 2 ^ 64 := Nat.lt_of_le_of_lt (Nat.le_mul_of_pos_right L hp) hL
  have h1 : (n &&& L) < 2 ^ 64 := Nat.lt_of_le_of_lt Nat.and_le_right hL1
  have h2 : (n >>> m &&& L) < 2 ^ 64 := Nat.lt_of_le_of_lt Nat.and_le_right hL1
  have h3 : ((n &&& L) ^^^ t) * P < 2 ^ 64 := Nat.lt_of_le_of_lt (Nat.mul_le_mul_right P hx) hL
  rw [u64_and_nat _ _ hn hL1, u64_xor_nat _ _ h1 ht, ← Int.natCast_mul, IntKind.wrap_u64]
  have e : ((((n &&& L) ^^^ t) * P : Nat) : Int) % 18446744073709551616 = ((((n &&& L) ^^^ t) * P : Nat) : Int) := by omega
  rw [e, u64_or_nat _ _ h3 h2, Nat.shiftLeft_eq, hP]

theorem hi6n (n : Nat) (h : n < 2 ^ 64) : n >>> 32 &&& Tw.L6 = n / 4294967296 := by
  have e : Tw.L6 = 2 ^ 32 - 1 := by decide
  rw [e, Nat.and_two_pow_sub_one_eq_mod, Nat.shiftRight_eq_div_pow]
  omega
theorem hi6 (n : Nat) (h : n < 2 ^ 64) : (n : Int) / 4294967296 = ((n >>> 32 &&& Tw.L6 : Nat) : Int) := by
  rw [hi6n n h]
  omega
/-- The bit that is the generator of a level (of level 0, and of what is none: 1). -/
def gbit (l : Int) : Nat := if l = 1 then 2 else if l = 2 then 4 else if l = 3 then 16 else if l = 4 then 256 else if l = 5 then 65536 else if l = 6 then 4294967296 else 1
end Go.Proofs.Ytkllihomdlibgaa

/- Contract of tower.squares over the seat's translation. -/
namespace Go.Proofs.Ytkllihomdlibgaa
open Go.RowKit
open Tw (px)

theorem i_sq (n m P L t : Nat) (hP : P = 2 ^ m) (hn : n < 2 ^ 64) (hL : L * P < 2 ^ 64) (ht : t &&& L = t) (hd : (L <<< m) &&& L = 0) :
    bits .xor .u64 (bits .or .u64 (IntKind.u64.wrap ((t : Int) * (P : Int))) (bits .and .u64 (n : Int) (L : Int))) ((n >>> m &&& L : Nat) : Int) = ((((t <<< m) ^^^ (n &&& L)) ^^^ (n >>> m &&& L) : Nat) : Int) := by
  have hp : 1 ≤ P := by rw [hP]; exact Nat.one_le_two_pow
  have hL1 : L < 2 ^ 64 := Nat.lt_of_le_of_lt (Nat.le_mul_of_pos_right L hp) hL
  have h1 : (n &&& L) < 2 ^ 64 := Nat.lt_of_le_of_lt Nat.and_le_right hL1
  have h2 : (n >>> m &&& L) < 2 ^ 64 := Nat.lt_of_le_of_lt Nat.and_le_right hL1
  have h0 : t ≤ L := by rw [← ht]; exact Nat.and_le_right
  have h3 : t * P < 2 ^ 64 := Nat.lt_of_le_of_lt (Nat.mul_le_mul_right P h0) hL
  have e : ((t * P : Nat) : Int) % 18446744073709551616 = ((t * P : Nat) : Int) := by omega
  have h4 : t * P ||| (n &&& L) < 2 ^ 64 := Nat.or_lt_two_pow h3 h1
  rw [u64_and_nat _ _ hn hL1, ← Int.natCast_mul, IntKind.wrap_u64, e, u64_or_nat _ _ h3 h1, u64_xor_nat _ _ h4 h2]
  rw [show t * P = t <<< m by rw [Nat.shiftLeft_eq, hP], Tw.lanes_or ht (Tw.and_and_self n L) hd]

end Go.Proofs.Ytkllihomdlibgaa

/- Contract of tower.multiples over the seat's translation: a word times each element of level 2. -/
namespace Go.Proofs.Ytkllihomdlibgaa
open Go.RowKit
open Tw (px)

theorem x_px (a b n : Nat) : bits .xor .u64 ((px a n : Nat) : Int) ((px b n : Nat) : Int) = ((px (a ^^^ b) n : Nat) : Int) := by
  rw [u64_xor_nat _ _ (Tw.px_lt a n) (Tw.px_lt b n), Tw.px_comm a, Tw.px_comm b, Tw.px_comm (a ^^^ b), Tw.px_lin n a b]
theorem x_0 (a : Nat) (h : a < 2 ^ 64) : bits .xor .u64 0 (a : Int) = (a : Int) := by
  have := u64_xor_nat 0 a (by decide) h
  rw [Nat.zero_xor] at this
  exact this

/-- What stands at a place of the table when k places have been filled. -/
def mc (p : Nat → Nat) (k i : Nat) : Nat := if i < k ∨ i = 1 ∨ i = 2 ∨ i = 4 ∨ i = 8 then p i else 0
def marr (p : Nat → Nat) (k : Nat) : Array Value := ((List.range 16).map fun i => Value.int .u64 ((mc p k i : Nat) : Int)).toArray
theorem marr_get (p : Nat → Nat) (k i : Nat) (h : i < 16) : (marr p k)[i]? = some (.int .u64 ((mc p k i : Nat) : Int)) := by
  unfold marr; simp [h]
theorem marr_set (p : Nat → Nat) (k : Nat) : (marr p k).setIfInBounds k (.int .u64 ((p k : Nat) : Int)) = marr p (k + 1) := by
  apply Array.ext_getElem?
  intro i
  rw [Array.getElem?_setIfInBounds]
  by_cases hi : i < 16
  · by_cases hk : k = i
    · subst hk
      rw [if_pos rfl, marr_get p (k + 1) k hi]
      have : mc p (k + 1) k = p k := by unfold mc; rw [if_pos (by omega)]
      rw [this]
      simp [marr, hi]
    · rw [if_neg hk, marr_get p k i hi, marr_get p (k + 1) i hi]
      have : mc p (k + 1) i = mc p k i := by unfold mc; congr 1; apply propext; omega
      rw [this]
  · have e1 : (marr p k)[i]? = none := by unfold marr; simp; omega
    have e2 : (marr p (k + 1))[i]? = none := by unfold marr; simp; omega
    by_cases hk : k = i
    · subst hk
      have : ¬ k < (marr p k).size := by unfold marr; simp; omega
      rw [if_pos rfl, if_neg this, e2]
    · rw [if_neg hk, e1, e2]
/-- The lowest bit of a number below 16. -/
def lowb (k : Nat) : Nat := if k % 2 = 1 then 1 else if k % 4 = 2 then 2 else if k % 8 = 4 then 4 else if k % 16 = 8 then 8 else 0
theorem low_and (k : Nat) (h : k < 16) : bits .and .i64 (k : Int) (-(k : Int)) = (lowb k : Int) := by
  have all : ∀ j : Fin 16, bits .and .i64 (j.val : Int) (-(j.val : Int)) = (lowb j.val : Int) := by decide +kernel
  exact all ⟨k, h⟩
theorem low_xor (k : Nat) (h : k < 16) : lowb k ≤ k ∧ (k - lowb k) ^^^ lowb k = k ∧ (k - lowb k < k ∨ k - lowb k = 0 ∧ (k = 0 ∨ k = 1 ∨ k = 2 ∨ k = 4 ∨ k = 8)) ∧ (lowb k < k ∨ lowb k = k ∧ (k = 0 ∨ k = 1 ∨ k = 2 ∨ k = 4 ∨ k = 8)) := by
  have all : ∀ j : Fin 16, lowb j.val ≤ j.val ∧ (j.val - lowb j.val) ^^^ lowb j.val = j.val ∧ (j.val - lowb j.val < j.val ∨ j.val - lowb j.val = 0 ∧ (j.val = 0 ∨ j.val = 1 ∨ j.val = 2 ∨ j.val = 4 ∨ j.val = 8)) ∧ (lowb j.val < j.val ∨ lowb j.val = j.val ∧ (j.val = 0 ∨ j.val = 1 ∨ j.val = 2 ∨ j.val = 4 ∨ j.val = 8)) := by decide +kernel
  exact all ⟨k, h⟩

theorem set_top (X : World) (A : Array Value) (T : TypeId) (n k : Nat) (v : Value) (b : Nat) (hb : b = X.heap.size) : ((X.alloc (.cells A T)).drewN n).setCell ⟨b, k, none⟩ v = (X.alloc (.cells (A.setIfInBounds k v) T)).drewN n := by
  have e : ((X.alloc (.cells A T)).drewN n).setCell ⟨b, k, none⟩ v = ((X.alloc (.cells A T)).setCell ⟨b, k, none⟩ v).drewN n := rfl
  rw [e, World.setCell_alloc_at A T b k v hb]
theorem marr_full (p : Nat → Nat) : marr p 16 = #[.int .u64 ((p 0 : Nat) : Int), .int .u64 ((p 1 : Nat) : Int), .int .u64 ((p 2 : Nat) : Int), .int .u64 ((p 3 : Nat) : Int), .int .u64 ((p 4 : Nat) : Int), .int .u64 ((p 5 : Nat) : Int), .int .u64 ((p 6 : Nat) : Int), .int .u64 ((p 7 : Nat) : Int), .int .u64 ((p 8 : Nat) : Int), .int .u64 ((p 9 : Nat) : Int), .int .u64 ((p 10 : Nat) : Int), .int .u64 ((p 11 : Nat) : Int), .int .u64 ((p 12 : Nat) : Int), .int .u64 ((p 13 : Nat) : Int), .int .u64 ((p 14 : Nat) : Int), .int .u64 ((p 15 : Nat) : Int)] := by
  unfold marr mc
  simp [List.range_succ]

end Go.Proofs.Ytkllihomdlibgaa

/- Contract of tower.joined over the seat's translation. -/
namespace Go.Proofs.Ytkllihomdlibgaa
open Go.RowKit
open Tw (px)

/-- The block b holds the products of a word with each element of level 2. -/
def Row16 (p : Nat → Nat) (b : Nat) (w : World) : Prop := ∀ i, i < 16 → w.cell? ⟨b, i, none⟩ = some (.int .u64 (p i : Nat))

theorem i_and15 (b : Nat) (h : b < 2 ^ 64) : bits .and .u64 (b : Int) 15 = ((b % 16 : Nat) : Int) := by
  have := u64_and_nat b 15 h (by decide)
  rw [show b &&& 15 = b % 16 from Nat.and_two_pow_sub_one_eq_mod b 4] at this
  exact this

theorem x_nat (a b : Nat) (ha : a < 2 ^ 64) (hb : b < 2 ^ 64) : bits .xor .u64 (a : Int) (b : Int) = ((a ^^^ b : Nat) : Int) := u64_xor_nat a b ha hb
theorem px_left (a b n : Nat) : px a n ^^^ px b n = px (a ^^^ b) n := by rw [Tw.px_comm a, Tw.px_comm b, Tw.px_comm (a ^^^ b), Tw.px_lin n a b]
/-- The lower and the upper half of a number of 2 m bits. -/
theorem halves (m b : Nat) : (b % 2 ^ m) ^^^ (((b >>> m) % 2 ^ m) <<< m) = b % 2 ^ (2 * m) := by
  apply Nat.eq_of_testBit_eq
  intro i
  rw [Nat.testBit_xor, Nat.testBit_mod_two_pow, Nat.testBit_shiftLeft, Nat.testBit_mod_two_pow, Nat.testBit_mod_two_pow, Nat.testBit_shiftRight]
  by_cases h1 : i < m
  · simp [h1, show ¬ m ≤ i by omega, show i < 2 * m by omega]
  · by_cases h2 : i < 2 * m
    · simp [h1, h2, show m ≤ i by omega, show i - m < m by omega, show m + (i - m) = i by omega]
    · simp [h1, h2, show ¬ i - m < m by omega]
theorem px_top (j g m : Nat) (hg : g = Tw.enc 6 (Tw.gk j 6)) (h : ∀ i, i < m → Tw.enc 6 (Tw.laneX j 6 (Tw.dec 6 (2 ^ i))) = (2 ^ i) <<< m) (x : Nat) (hx : x < 2 ^ m) : px g x = x <<< m := by
  refine Tw.lin_ext (f := px g) (g := fun w => w <<< m) (Tw.px_lin g) (Tw.Lin.id.shl m) m ?_ x hx
  intro i hi
  rw [Tw.px_lane j g hg]
  exact h i hi
theorem comb3 (b : Nat) : (b % 16) ^^^ px 16 ((b >>> 4) % 16) = b % 256 := by
  rw [px_top 3 16 4 (by decide +kernel) (by decide +kernel) _ (Nat.mod_lt _ (by decide))]
  exact halves 4 b
theorem comb4 (b : Nat) : (b % 2 ^ 8) ^^^ px 256 ((b >>> 8) % 2 ^ 8) = b % 2 ^ 16 := by
  rw [px_top 4 256 8 (by decide +kernel) (by decide +kernel) _ (Nat.mod_lt _ (by decide))]
  exact halves 8 b
theorem comb5 (b : Nat) : (b % 2 ^ 16) ^^^ px 65536 ((b >>> 16) % 2 ^ 16) = b % 2 ^ 32 := by
  rw [px_top 5 65536 16 (by decide +kernel) (by decide +kernel) _ (Nat.mod_lt _ (by decide))]
  exact halves 16 b
theorem comb6 (b : Nat) : (b % 2 ^ 32) ^^^ px 4294967296 ((b >>> 32) % 2 ^ 32) = b % 2 ^ 64 := by
  rw [px_top 6 4294967296 32 (by decide +kernel) (by decide +kernel) _ (Nat.mod_lt _ (by decide))]
  exact halves 32 b
theorem px_swap (g x n : Nat) : px g (px x n) = px (px g x) n := (Tw.px_assoc g x n).symm

theorem Row16.drewN {p : Nat → Nat} {b : Nat} {w : World} (h : Row16 p b w) (k : Nat) : Row16 p b (w.drewN k) := fun i hi => by
  have := h i hi
  simpa [go_sem] using this

end Go.Proofs.Ytkllihomdlibgaa

/- Contract of tower.scaled over the seat's translation: a word times an element of a level up to 6. -/
namespace Go.Proofs.Ytkllihomdlibgaa
open Go.RowKit
open Tw (px)

/-- How many elements a level has, as a bound. -/
def lim (l : Int) : Nat := if l = 0 then 2 else if l = 1 then 4 else if l = 2 then 16 else if l = 3 then 256 else if l = 4 then 65536 else if l = 5 then 4294967296 else if l = 6 then 18446744073709551616 else 0

theorem lim_le (l : Int) : lim l ≤ 2 ^ 64 := by
  unfold lim; repeat' split
  all_goals decide
end Go.Proofs.Ytkllihomdlibgaa

/- The library's own contracts of math/bits Len64 and Len, laid at the seat's translation in plain words. -/
namespace Go.Proofs.Ytkllihomdlibgaa
open Go.Shelf
def blays125_ren : Go.Shelf.Ren := ⟨fun | 125 => 55 | 128 => 64 | 129 => 53 | n => n, fun | 46 => 88 | 3 => 3 | 51 => 103 | 53 => 23 | 4 => 4 | 5 => 5 | 9 => 9 | n => n, fun | n => n⟩
theorem blays125 : Go.Proofs.Lays.n125 Try.prog blays125_ren := {
  mixed := by kernel_rfl
  f125 := Try.func55.trans (congrArg some (by kernel_rfl))
  f128 := Try.func64.trans (congrArg some (by kernel_rfl))
  f129 := Try.func53.trans (congrArg some (by kernel_rfl))
  t3 := Try.underlying3
  a3 := Try.isAgg3
  z3 := Try.sizeOf3
  v3 := Try.zeroValue3
  t4 := Try.underlying4
  a4 := Try.isAgg4
  z4 := Try.sizeOf4
  v4 := Try.zeroValue4
  t5 := Try.underlying5
  a5 := Try.isAgg5
  z5 := Try.sizeOf5
  v5 := Try.zeroValue5
  t9 := Try.underlying9
  a9 := Try.isAgg9
  z9 := Try.sizeOf9
  v9 := Try.zeroValue9
  t46 := Try.underlying88
  a46 := Try.isAgg88
  z46 := Try.sizeOf88
  v46 := Try.zeroValue88
  t51 := Try.underlying103
  a51 := Try.isAgg103
  z51 := Try.sizeOf103
  v51 := Try.zeroValue103
  t53 := Try.underlying23
  a53 := Try.isAgg23
  z53 := Try.sizeOf23
  v53 := Try.zeroValue23 }
def blays129_ren : Go.Shelf.Ren := ⟨fun | 129 => 53 | n => n, fun | 53 => 23 | 3 => 3 | 4 => 4 | 46 => 88 | 5 => 5 | 9 => 9 | n => n, fun | n => n⟩
theorem blays129 : Go.Proofs.Lays.n129 Try.prog blays129_ren := {
  mixed := by kernel_rfl
  f129 := Try.func53.trans (congrArg some (by kernel_rfl))
  t3 := Try.underlying3
  a3 := Try.isAgg3
  z3 := Try.sizeOf3
  v3 := Try.zeroValue3
  t4 := Try.underlying4
  a4 := Try.isAgg4
  z4 := Try.sizeOf4
  v4 := Try.zeroValue4
  t5 := Try.underlying5
  a5 := Try.isAgg5
  z5 := Try.sizeOf5
  v5 := Try.zeroValue5
  t9 := Try.underlying9
  a9 := Try.isAgg9
  z9 := Try.sizeOf9
  v9 := Try.zeroValue9
  t46 := Try.underlying88
  a46 := Try.isAgg88
  z46 := Try.sizeOf88
  v46 := Try.zeroValue88
  t53 := Try.underlying23
  a53 := Try.isAgg23
  z53 := Try.sizeOf23
  v53 := Try.zeroValue23 }
theorem len_any (x : Int) (w : World) (h0 : 0 ≤ x) (h1 : x ≤ 18446744073709551615) :
    Calls Try.prog 55 #[.int .u64 x] w fun e w' => e = .returned (.int .i64 (Lib.bitLen x.toNat)) ∧ w' = w := Any.bits_Len blays125 x w h0 h1
theorem len64_any (x : Int) (w : World) (h0 : 0 ≤ x) (h1 : x ≤ 18446744073709551615) :
    Calls Try.prog 53 #[.int .u64 x] w fun e w' => e = .returned (.int .i64 (Lib.bitLen x.toNat)) ∧ w' = w := Any.bits_Len64 blays129 x w h0 h1
end Go.Proofs.Ytkllihomdlibgaa
