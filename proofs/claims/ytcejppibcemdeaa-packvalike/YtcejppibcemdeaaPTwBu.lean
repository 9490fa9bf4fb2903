/- The walk of WeaveBits over the seat's translation, level by level. -/
import Derived.Test.YtcejppibcemdeaaPWvO
import Derived.Test.YtcejppibcemdeaaRfE
import Derived.Test.YtcejppibcemdeaaPTwMx
import Derived.Test.YtcejppibcemdeaaTwBt
import Derived.Test.YtcejppibcemdeaaPWvN
namespace Go.Proofs.Ytcejppibcemdeaa
open Go.RowKit

/-- Bits, gathered. -/
def gB (k q : Nat) (bs : List Bool) : List (Nat × Nat) := (List.range q).map fun i => jnd k k (((bE bs).drop (i * 2 ^ k)).take (2 ^ k))
theorem gB_len (k q : Nat) (bs : List Bool) : (gB k q bs).length = q := by simp [gB]
theorem gB_at (k q : Nat) (bs : List Bool) (i : Nat) (hi : i < q) : (gB k q bs).getD i (0, 0) = jnd k k (((bE bs).drop (i * 2 ^ k)).take (2 ^ k)) := by simp [gB, List.getD, hi]
theorem gB_part (k q : Nat) (bs : List Bool) (hq : bs.length = q * 2 ^ k) (i : Nat) (hi : i < q) : (((bE bs).drop (i * 2 ^ k)).take (2 ^ k)).length = 2 ^ k := by
  have hlt : (i + 1) * 2 ^ k ≤ bs.length := by rw [hq]; exact Nat.mul_le_mul_right _ hi
  rw [Nat.add_mul, Nat.one_mul] at hlt
  rw [List.length_take, List.length_drop, bE_len]; omega
theorem gB_parts (k : Nat) (bs : List Bool) (i : Nat) : ∀ e ∈ ((bE bs).drop (i * 2 ^ k)).take (2 ^ k), ofB ((k - k : Nat) : Int) (e.1 : Int) (e.2 : Int) = true := fun e he => by
  rw [Nat.sub_self]; exact bE_of bs e (List.mem_of_mem_drop (List.mem_of_mem_take he))
theorem gB_of (k q : Nat) (hk : k < 8) (bs : List Bool) (hq : bs.length = q * 2 ^ k) (i : Nat) (hi : i < q) : ofB (k : Int) (((gB k q bs).getD i (0, 0)).1 : Nat) (((gB k q bs).getD i (0, 0)).2 : Nat) = true := by
  rw [gB_at k q bs i hi]
  exact jnd_of k k _ (Nat.le_refl _) hk (gB_part k q bs hq i hi) (gB_parts k bs i)
theorem jn_lt (k : Nat) (hk : k < 8) (x y : Nat × Nat) (hx : x.2 < 2 ^ 64) (hy : y.2 < 2 ^ 64) (o : ofB (k : Int) ((jn k x y).1 : Nat) ((jn k x y).2 : Nat) = true) : (jn k x y).1 < 2 ^ 64 ∧ (jn k x y).2 < 2 ^ 64 := by
  by_cases h7 : k = 7
  · subst h7; exact ⟨hx, hy⟩
  · exact of_lt64 (by omega) o
theorem jnd_lt : ∀ (d k : Nat) (es : List (Nat × Nat)), d ≤ k → k < 8 → es.length = 2 ^ d → ltE es → (∀ e ∈ es, ofB ((k - d : Nat) : Int) (e.1 : Int) (e.2 : Int) = true) → (jnd d k es).1 < 2 ^ 64 ∧ (jnd d k es).2 < 2 ^ 64 := by
  intro d
  induction d with
  | zero => intro k es _ _ _ h _; exact h.at 0
  | succ d ih =>
    intro k es hd hk hl hes ho
    have hp : 2 ^ (d + 1) = 2 ^ d + 2 ^ d := by rw [Nat.pow_succ]; omega
    have hs : k - 1 - d = k - (d + 1) := by omega
    exact jn_lt k hk _ _ (ih (k - 1) _ (by omega) (by omega) (by rw [List.length_drop]; omega) (fun e he => hes e (List.mem_of_mem_drop he)) (fun e he => by rw [hs]; exact ho e (List.mem_of_mem_drop he))).2
      (ih (k - 1) _ (by omega) (by omega) (by rw [List.length_take]; omega) (fun e he => hes e (List.mem_of_mem_take he)) (fun e he => by rw [hs]; exact ho e (List.mem_of_mem_take he))).2 (jnd_of (d + 1) k es hd hk hl ho)
theorem gB_lt (k q : Nat) (hk : k < 8) (bs : List Bool) (hq : bs.length = q * 2 ^ k) (i : Nat) (hi : i < q) : ((gB k q bs).getD i (0, 0)).1 < 2 ^ 64 ∧ ((gB k q bs).getD i (0, 0)).2 < 2 ^ 64 := by
  rw [gB_at k q bs i hi]
  exact jnd_lt k k _ (Nat.le_refl _) hk (gB_part k q bs hq i hi) (fun e he => bE_lt bs e (List.mem_of_mem_drop (List.mem_of_mem_take he))) (gB_parts k bs i)
theorem gB_bit (k q : Nat) (hk : k < 8) (bs : List Bool) (hq : bs.length = q * 2 ^ k) (i : Nat) (hi : i < q) (m : Nat) (hm : m < 2 ^ k) : hasB ((gB k q bs).getD i (0, 0)).1 ((gB k q bs).getD i (0, 0)).2 m = bs.getD (i * 2 ^ k + m) false := by
  rw [gB_at k q bs i hi, jnd_has k k _ (Nat.le_refl _) hk (gB_part k q bs hq i hi) (gB_parts k bs i) m hm, Nat.sub_self, show (2 : Nat) ^ 0 = 1 by decide, Nat.div_one, Nat.mod_one, getD_take _ _ _ _ hm, getD_drop, bE_at]
  cases bs.getD (i * 2 ^ k + m) false <;> decide
end Go.Proofs.Ytcejppibcemdeaa

/- Contracts of steepleref02.Mul and X over the seat's translation. -/
namespace Go.Proofs.Ytcejppibcemdeaa
open Go.RowKit
open Tw (pm)

/-- Two elements and a room, as Mul lays them. -/
structure Mst (W w : World) (ah al bh bl : Nat) : Prop where
  a : Ew w W.heap.size ah al
  b : Ew w (W.heap.size + 1) bh bl
  r : Ew w (W.heap.size + 1 + 1) 0 0
  d : Below W.heap.size W w
theorem Mst.below {W w w' : World} {ah al bh bl : Nat} (h : Mst W w ah al bh bl) (hb : Below w.heap.size w w') : Mst W w' ah al bh bl :=
  ⟨h.a.below hb, h.b.below hb, h.r.below hb, h.d.trans (hb.mono h.d.size)⟩
theorem mst_new (W : World) (ah al bh bl : Nat) : Mst W (((W.alloc (Obj.cells #[.int .u64 (ah : Int), .int .u64 (al : Int)] 28)).alloc (Obj.cells #[.int .u64 (bh : Int), .int .u64 (bl : Int)] 28)).alloc (Obj.cells #[.int .u64 0, .int .u64 0] 28)) ah al bh bl :=
  ⟨⟨⟨by simp [go_sem], by simp [go_sem]⟩, by simp [go_sem], by simp [go_sem]⟩, ⟨⟨by simp [go_sem], by simp [go_sem]⟩, by simp [go_sem], by simp [go_sem]⟩, ⟨⟨by simp [go_sem], by simp [go_sem]⟩, by simp [go_sem], by simp [go_sem]⟩, by go_grown⟩
end Go.Proofs.Ytcejppibcemdeaa

/- Contracts of tower.Bit, Bits, Split and Join, and of steepleref02.Bit and Level, over the seat's translation. -/
namespace Go.Proofs.Ytcejppibcemdeaa
open Go.RowKit
open Tw (px pm)

/-- The pair with the bit n alone: none, where there is no such bit. -/
def bv (n : Int) : Nat × Nat := if 0 ≤ n ∧ n ≤ 127 then Tw.bitp n.toNat else (0, 0)
set_option maxHeartbeats 400000 in
theorem bit_low (n : Nat) (hn : n < 64) : Ret 69 #[.int .i64 (n : Int)] (.agg #[.int .u64 0, .int .u64 ((2 ^ n : Nat) : Int)]) := by
  intro W
  go_enter Try.func69, Try.ntmps69
  go_wp2
  refine bodyPost_ret (v := .agg #[.int .u64 0, .int .u64 (IntKind.u64.wrap (2 ^ n))]) (by simp [results, Try.results69, go_sem]) rfl ⟨by rw [wrap_pow n hn], ?_⟩
  go_grown
set_option maxHeartbeats 400000 in
theorem bit_high (n : Nat) (hn : 64 ≤ n) (hn2 : n < 128) : Ret 69 #[.int .i64 (n : Int)] (.agg #[.int .u64 ((2 ^ (n - 64) : Nat) : Int), .int .u64 0]) := by
  intro W
  go_enter Try.func69, Try.ntmps69
  go_wp2
  refine bodyPost_ret (v := .agg #[.int .u64 (IntKind.u64.wrap (2 ^ (n - 64))), .int .u64 0]) (by simp [results, Try.results69, go_sem]) rfl ⟨by rw [wrap_pow (n - 64) (by omega)], ?_⟩
  go_grown
set_option maxHeartbeats 800000 in
theorem bit_none (n : Int) (h : ¬ (0 ≤ n ∧ n ≤ 127)) : Ret 69 #[.int .i64 n] (.agg #[.int .u64 0, .int .u64 0]) := by
  intro W
  by_cases h0 : 0 ≤ n
  · have h7 : ¬ n ≤ 127 := fun h7 => h ⟨h0, h7⟩
    clear h
    go_enter Try.func69, Try.ntmps69
    go_wp2
    refine bodyPost_ret (v := .agg #[.int .u64 0, .int .u64 0]) (by simp [results, Try.results69, go_sem]) rfl ⟨rfl, ?_⟩
    go_grown
  · clear h
    go_enter Try.func69, Try.ntmps69
    go_wp2
    refine bodyPost_ret (v := .agg #[.int .u64 0, .int .u64 0]) (by simp [results, Try.results69, go_sem]) rfl ⟨rfl, ?_⟩
    go_grown
set_option maxHeartbeats 800000 in
theorem rbit_none (n : Int) (h : ¬ (0 ≤ n ∧ n ≤ 127)) : Ret 43 #[.int .i64 n] (.agg #[.int .u64 0, .int .u64 0]) := by
  intro W
  by_cases h0 : 0 ≤ n
  · have h7 : ¬ n ≤ 127 := fun h7 => h ⟨h0, h7⟩
    clear h
    go_enter Try.func43, Try.ntmps43
    go_wp2
    refine bodyPost_ret (v := .agg #[.int .u64 0, .int .u64 0]) (by simp [results, Try.results43, go_sem]) rfl ⟨rfl, ?_⟩
    go_grown
  · clear h
    go_enter Try.func43, Try.ntmps43
    go_wp2
    refine bodyPost_ret (v := .agg #[.int .u64 0, .int .u64 0]) (by simp [results, Try.results43, go_sem]) rfl ⟨rfl, ?_⟩
    go_grown
theorem bit_any (n : Int) : Ret 69 #[.int .i64 n] (.agg #[.int .u64 ((bv n).1 : Int), .int .u64 ((bv n).2 : Int)]) := by
  unfold bv
  by_cases h : 0 ≤ n ∧ n ≤ 127
  · rw [if_pos h]
    obtain ⟨m, rfl⟩ : ∃ m : Nat, n = (m : Int) := ⟨n.toNat, by omega⟩
    rw [Int.toNat_natCast]
    unfold Tw.bitp
    by_cases h2 : m < 64
    · rw [if_pos h2]; exact bit_low m h2
    · rw [if_neg h2]; exact bit_high m (by omega) (by omega)
  · rw [if_neg h]; exact bit_none n h
theorem rbit_any (n : Int) : Ret 43 #[.int .i64 n] (.agg #[.int .u64 ((bv n).1 : Int), .int .u64 ((bv n).2 : Int)]) := by
  unfold bv
  by_cases h : 0 ≤ n ∧ n ≤ 127
  · rw [if_pos h]
    obtain ⟨m, rfl⟩ : ∃ m : Nat, n = (m : Int) := ⟨n.toNat, by omega⟩
    rw [Int.toNat_natCast]
    unfold Tw.bitp
    by_cases h2 : m < 64
    · rw [if_pos h2]; exact rbit_low m h2
    · rw [if_neg h2]; exact rbit_high m (by omega) (by omega)
  · rw [if_neg h]; exact rbit_none n h

end Go.Proofs.Ytcejppibcemdeaa
