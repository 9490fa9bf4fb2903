/- Contract of tower.joined over the seat's translation. -/
import Derived.Test.YtghapohempogkaaPTwC
import Derived.Deep.QuietTactic
import Derived.BigQuiet
import Derived.Shelf.Small.Bits
import Derived.Shelf.Strconv.Itoa0
import Derived.Test.YtghapohempogkaaProg
namespace Go.Proofs.Ytghapohempogkaa
open Go.RowKit
open Tw (px)

/-- The block b holds the products of a word with each element of level 2. -/
def Row16 (p : Nat → Nat) (b : Nat) (w : World) : Prop := ∀ i, i < 16 → w.cell? ⟨b, i, none⟩ = some (.int .u64 (p i : Nat))

theorem i_and15 (b : Nat) (h : b < 2 ^ 64) : bits .and .u64 (b : Int) 15 = ((b % 16 : Nat) : Int) := by
  have := u64_and_nat b 15 h (by decide)
  rw [show b &&& 15 = b % 16 from Nat.and_two_pow_sub_one_eq_mod b 4] at this
  exact this

theorem x_nat (a b : Nat) (ha : a < 2 ^ 64) (hb : b < 2 ^ 64) : bits .xor .u64 (a : Int) (b : Int) = ((a ^^^ b : Nat) : Int) := u64_xor_nat a b ha hb
theorem px_left (a b n : Nat) : px a n ^^^ px b n = px (a ^^^ b) n := by rw [Tw.px_comm a, Tw.px_comm b, Tw.px_comm (a ^^^ b), Tw.px_lin n a b]
/-- The lower and the upper half of a number of 2 m bits. -/
theorem halves (m b : Nat) : (b % 2 ^ m) ^^^ (((b >>> m) % 2 ^ m) <<< m) = b % 2 ^ (2 * m) := by
  apply Nat.eq_of_testBit_eq
  intro i
  rw [Nat.testBit_xor, Nat.testBit_mod_two_pow, Nat.testBit_shiftLeft, Nat.testBit_mod_two_pow, Nat.testBit_mod_two_pow, Nat.testBit_shiftRight]
  by_cases h1 : i < m
  · simp [h1, show ¬ m ≤ i by omega, show i < 2 * m by omega]
  · by_cases h2 : i < 2 * m
    · simp [h1, h2, show m ≤ i by omega, show i - m < m by omega, show m + (i - m) = i by omega]
    · simp [h1, h2, show ¬ i - m < m by omega]
theorem px_top (j g m : Nat) (hg : g = Tw.enc 6 (Tw.gk j 6)) (h : ∀ i, i < m → Tw.enc 6 (Tw.laneX j 6 (Tw.dec 6 (2 ^ i))) = (2 ^ i) <<< m) (x : Nat) (hx : x < 2 ^ m) : px g x = x <<< m := by
  refine Tw.lin_ext (f := px g) (g := fun w => w <<< m) (Tw.px_lin g) (Tw.Lin.id.shl m) m ?_ x hx
  intro i hi
  rw [Tw.px_lane j g hg]
  exact h i hi
theorem comb3 (b : Nat) : (b % 16) ^^^ px 16 ((b >>> 4) % 16) = b % 256 := by
  rw [px_top 3 16 4 (by decide +kernel) (by decide +kernel) _ (Nat.mod_lt _ (by decide))]
  exact halves 4 b
theorem comb4 (b : Nat) : (b % 2 ^ 8) ^^^ px 256 ((b >>> 8) % 2 ^ 8) = b % 2 ^ 16 := by
  rw [px_top 4 256 8 (by decide +kernel) (by decide +kernel) _ (Nat.mod_lt _ (by decide))]
  exact halves 8 b
theorem comb5 (b : Nat) : (b % 2 ^ 16) ^^^ px 65536 ((b >>> 16) % 2 ^ 16) = b % 2 ^ 32 := by
  rw [px_top 5 65536 16 (by decide +kernel) (by decide +kernel) _ (Nat.mod_lt _ (by decide))]
  exact halves 16 b
theorem comb6 (b : Nat) : (b % 2 ^ 32) ^^^ px 4294967296 ((b >>> 32) % 2 ^ 32) = b % 2 ^ 64 := by
  rw [px_top 6 4294967296 32 (by decide +kernel) (by decide +kernel) _ (Nat.mod_lt _ (by decide))]
  exact halves 32 b
theorem px_swap (g x n : Nat) : px g (px x n) = px (px g x) n := (Tw.px_assoc g x n).symm

theorem Row16.drewN {p : Nat → Nat} {b : Nat} {w : World} (h : Row16 p b w) (k : Nat) : Row16 p b (w.drewN k) := fun i hi => by
  have := h i hi
  simpa [go_sem] using this

end Go.Proofs.Ytghapohempogkaa

/- Contract of tower.scaled over the seat's translation: a word times an element of a level up to 6. -/
namespace Go.Proofs.Ytghapohempogkaa
open Go.RowKit
open Tw (px)

/-- How many elements a level has, as a bound. -/
def lim (l : Int) : Nat := if l = 0 then 2 else if l = 1 then 4 else if l = 2 then 16 else if l = 3 then 256 else if l = 4 then 65536 else if l = 5 then 4294967296 else if l = 6 then 18446744073709551616 else 0

theorem lim_le (l : Int) : lim l ≤ 2 ^ 64 := by
  unfold lim; repeat' split
  all_goals decide
end Go.Proofs.Ytghapohempogkaa

/- The library's own contracts of math/bits Len64 and Len, laid at the seat's translation in plain words. -/
namespace Go.Proofs.Ytghapohempogkaa
open Go.Shelf
end Go.Proofs.Ytghapohempogkaa
