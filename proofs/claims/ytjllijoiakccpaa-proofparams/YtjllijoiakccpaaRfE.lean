/- The document's products and powers, over the seat's translation. -/
import Derived.Test.YtjllijoiakccpaaPTwPx
import Derived.Test.YtjllijoiakccpaaTwBl
namespace Go.Proofs.Ytjllijoiakccpaa
open Go.RowKit

theorem Below.set2 {B p : Nat} {W w : World} (h : Below B W w) (hp : B ≤ p) (u v : Value) : Below B W ((w.setCell ⟨p, 0, none⟩ u).setCell ⟨p, 1, none⟩ v) := (h.setCell hp _).setCell hp _
/-- What lies in memory while the product is reckoned. -/
structure Pst (W w : World) (ah al bh bl oh ol : Nat) : Prop where
  a : Ew w W.heap.size ah al
  b : Ew w (W.heap.size + 1) bh bl
  r : Ew w (W.heap.size + 1 + 1) 0 0
  o : Ew w (W.heap.size + 1 + 1 + 1) oh ol
  d : Below W.heap.size W w
theorem Pst.below {W w w' : World} {ah al bh bl oh ol : Nat} (h : Pst W w ah al bh bl oh ol) (hb : Below w.heap.size w w') : Pst W w' ah al bh bl oh ol :=
  ⟨h.a.below hb, h.b.below hb, h.r.below hb, h.o.below hb, h.d.trans (hb.mono h.d.size)⟩
theorem Pst.alloc {W w : World} {ah al bh bl oh ol : Nat} (h : Pst W w ah al bh bl oh ol) (o : Obj) : Pst W (w.alloc o) ah al bh bl oh ol := h.below ((Below.refl _ _).alloc (Nat.le_refl _) o)
theorem Pst.other {W w : World} {ah al bh bl oh ol p : Nat} (h : Pst W w ah al bh bl oh ol) (hp : W.heap.size + 1 + 1 + 1 < p) (u v : Value) : Pst W ((w.setCell ⟨p, 0, none⟩ u).setCell ⟨p, 1, none⟩ v) ah al bh bl oh ol :=
  ⟨h.a.other (by omega) _ _, h.b.other (by omega) _ _, h.r.other (by omega) _ _, h.o.other (by omega) _ _, Below.set2 h.d (by omega) _ _⟩
theorem Pst.put {W w : World} {ah al bh bl oh ol : Nat} (h : Pst W w ah al bh bl oh ol) (u v : Nat) : Pst W ((w.setCell ⟨W.heap.size + 1 + 1 + 1, 0, none⟩ (.int .u64 (u : Int))).setCell ⟨W.heap.size + 1 + 1 + 1, 1, none⟩ (.int .u64 (v : Int))) ah al bh bl u v :=
  ⟨h.a.other (by omega) _ _, h.b.other (by omega) _ _, h.r.other (by omega) _ _, h.o.set _ _, Below.set2 h.d (by omega) _ _⟩
theorem bit_i64 (n j : Nat) (hn : n < 128) : bits .and .i64 ((n : Int) / 2 ^ j) 1 = ((n / 2 ^ j % 2 : Nat) : Int) := by
  have h1 : n / 2 ^ j < 128 := Nat.lt_of_le_of_lt (Nat.div_le_self _ _) hn
  have h2 : (n : Int) / 2 ^ j = ((n / 2 ^ j : Nat) : Int) := by rw [Int.natCast_ediv, Int.natCast_pow]; rfl
  rw [h2]
  have H : ∀ m : Nat, m < 128 → bits .and .i64 (m : Int) 1 = ((m % 2 : Nat) : Int) := by decide +kernel
  exact H _ h1

/-- The bit n of a pair, as a number. -/
def bitN (h l n : Nat) : Nat := if n < 64 then l / 2 ^ n % 2 else h / 2 ^ (n - 64) % 2
theorem bitN_has (h l n : Nat) : bitN h l n = 1 ↔ hasB h l n = true := by
  unfold bitN hasB
  by_cases h1 : n < 64
  · rw [if_pos h1, if_pos h1, Nat.testBit_eq_decide_div_mod_eq]; simp
  · rw [if_neg h1, if_neg h1, Nat.testBit_eq_decide_div_mod_eq]; simp
theorem of_bits (k h l : Nat) (hk : k < 8) (hh : h < 2 ^ 64) (hl : l < 2 ^ 64) : (∀ n : Nat, 2 ^ k ≤ n → n < 128 → bitN h l n ≠ 1) ↔ (k = 7 ∨ (h = 0 ∧ l < 2 ^ 2 ^ k)) := by
  constructor
  · intro H
    by_cases h7 : k = 7
    · exact .inl h7
    · have hp : 2 ^ k ≤ 64 := Nat.pow_le_pow_right (n := 2) (by decide) (show k ≤ 6 by omega)
      right
      have H' : ∀ n : Nat, 2 ^ k ≤ n → n < 128 → hasB h l n = false := fun n h1 h2 => by
        have := H n h1 h2
        rw [Ne, bitN_has] at this
        simpa using this
      refine ⟨Nat.eq_of_testBit_eq fun i => ?_, Nat.lt_pow_two_of_testBit _ fun i hi => ?_⟩
      · rw [Nat.zero_testBit]
        by_cases hi : i < 64
        · have := H' (64 + i) (by omega) (by omega)
          unfold hasB at this
          rw [if_neg (by omega), show 64 + i - 64 = i by omega] at this
          exact this
        · exact Nat.testBit_lt_two_pow (Nat.lt_of_lt_of_le hh (Nat.pow_le_pow_right (by decide) (by omega)))
      · by_cases hi2 : i < 64
        · have := H' i hi (by omega)
          unfold hasB at this
          rw [if_pos hi2] at this
          exact this
        · exact Nat.testBit_lt_two_pow (Nat.lt_of_lt_of_le hl (Nat.pow_le_pow_right (by decide) (by omega)))
  · rintro (rfl | ⟨rfl, h2⟩) n h3 h4
    · omega
    · unfold bitN
      by_cases h5 : n < 64
      · rw [if_pos h5, Nat.div_eq_of_lt (Nat.lt_of_lt_of_le h2 (Nat.pow_le_pow_right (by decide) h3))]; decide
      · rw [if_neg h5, Nat.zero_div]; decide
end Go.Proofs.Ytjllijoiakccpaa
