/- The bits of parts that are joined; contracts of weave.Gather's errors and of weave.Bits over the seat's translation. -/
import Derived.Test.YtakaconhoodigaaPTwBa
import Derived.Test.YtakaconhoodigaaRfE
import Derived.Test.YtakaconhoodigaaPSlA
namespace Go.Proofs.Ytakaconhoodigaa
open Go.RowKit

theorem jn_has (k : Nat) (h1 : 1 ≤ k) (hk : k < 8) (x y : Nat × Nat) (oy : ofB ((k - 1 : Nat) : Int) (y.1 : Int) (y.2 : Int) = true) (n : Nat) (hn : n < 2 ^ k) :
    hasB (jn k x y).1 (jn k x y).2 n = if n < 2 ^ (k - 1) then hasB y.1 y.2 n else hasB x.1 x.2 (n - 2 ^ (k - 1)) := by
  unfold jn
  by_cases h7 : k = 7
  · subst h7
    rw [if_pos rfl]
    have e : (2 : Nat) ^ (7 - 1) = 64 := by decide
    have e2 : (2 : Nat) ^ 7 = 128 := by decide
    rw [e]; rw [e2] at hn
    unfold hasB
    by_cases h : n < 64
    · rw [if_pos h, if_pos h, if_pos h]
    · rw [if_neg h, if_neg h, if_pos (by omega)]
  · rw [if_neg h7]
    have h6 : 2 ^ k ≤ 2 ^ 6 := Nat.pow_le_pow_right (by decide) (by omega)
    have e : (2 : Nat) ^ 6 = 64 := by decide
    have hf : 0 < 2 ^ (k - 1) := Nat.two_pow_pos _
    rw [ofB_iff _ _ _ (by omega)] at oy
    have oy := oy.resolve_left (by omega)
    unfold hasB
    rw [if_pos (by omega)]
    show (2 ^ 2 ^ (k - 1) * x.2 + y.2).testBit n = _
    rw [Nat.testBit_two_pow_mul_add _ oy.2]
    by_cases h : n < 2 ^ (k - 1)
    · rw [if_pos h, if_pos h, if_pos (by omega)]
    · rw [if_neg h, if_neg h, if_pos (by omega)]
theorem getD_take {α : Type} (l : List α) (n i : Nat) (z : α) (h : i < n) : (l.take n).getD i z = l.getD i z := by simp [List.getD, h]
theorem getD_drop {α : Type} (l : List α) (n i : Nat) (z : α) : (l.drop n).getD i z = l.getD (n + i) z := by simp [List.getD]
/-- The bits of parts that are joined: those of the parts, one behind the other. -/
theorem jnd_has : ∀ (d k : Nat) (es : List (Nat × Nat)), d ≤ k → k < 8 → es.length = 2 ^ d → (∀ e ∈ es, ofB ((k - d : Nat) : Int) (e.1 : Int) (e.2 : Int) = true) → ∀ n, n < 2 ^ k →
    hasB (jnd d k es).1 (jnd d k es).2 n = hasB (es.getD (n / 2 ^ (k - d)) (0, 0)).1 (es.getD (n / 2 ^ (k - d)) (0, 0)).2 (n % 2 ^ (k - d)) := by
  intro d
  induction d with
  | zero =>
    intro k es _ _ hl _ n hn
    rw [Nat.sub_zero, Nat.div_eq_of_lt hn, Nat.mod_eq_of_lt hn]
    rfl
  | succ d ih =>
    intro k es hd hk hl ho n hn
    have hp : 2 ^ (d + 1) = 2 ^ d + 2 ^ d := by rw [Nat.pow_succ]; omega
    have hs : k - 1 - d = k - (d + 1) := by omega
    have ll : (es.take (2 ^ d)).length = 2 ^ d := by rw [List.length_take]; omega
    have lh : (es.drop (2 ^ d)).length = 2 ^ d := by rw [List.length_drop]; omega
    have oh : ∀ e ∈ es.drop (2 ^ d), ofB ((k - 1 - d : Nat) : Int) (e.1 : Int) (e.2 : Int) = true := fun e he => by rw [hs]; exact ho e (List.mem_of_mem_drop he)
    have ol : ∀ e ∈ es.take (2 ^ d), ofB ((k - 1 - d : Nat) : Int) (e.1 : Int) (e.2 : Int) = true := fun e he => by rw [hs]; exact ho e (List.mem_of_mem_take he)
    have hP : 2 ^ (k - 1) = 2 ^ d * 2 ^ (k - (d + 1)) := by rw [← Nat.pow_add]; congr 1; omega
    have hQ : 0 < 2 ^ (k - (d + 1)) := Nat.two_pow_pos _
    have hkk : 2 ^ k = 2 ^ (k - 1) + 2 ^ (k - 1) := by
      obtain ⟨j, rfl⟩ : ∃ j, k = j + 1 := ⟨k - 1, by omega⟩
      rw [Nat.add_sub_cancel, Nat.pow_succ]; omega
    show hasB (jn k _ _).1 (jn k _ _).2 n = _
    rw [jn_has k (by omega) hk _ _ (jnd_of d (k - 1) _ (by omega) (by omega) ll ol) n hn]
    by_cases h : n < 2 ^ (k - 1)
    · rw [if_pos h, ih (k - 1) _ (by omega) (by omega) ll ol n h, hs, getD_take _ _ _ _ (by rw [Nat.div_lt_iff_lt_mul hQ, ← hP]; exact h)]
    · rw [if_neg h, ih (k - 1) _ (by omega) (by omega) lh oh (n - 2 ^ (k - 1)) (by omega), hs, getD_drop]
      have e1 : 2 ^ d + (n - 2 ^ (k - 1)) / 2 ^ (k - (d + 1)) = n / 2 ^ (k - (d + 1)) := by
        conv => rhs; rw [show n = (n - 2 ^ (k - 1)) + 2 ^ d * 2 ^ (k - (d + 1)) by omega]
        rw [Nat.add_mul_div_right _ _ hQ]; omega
      have e2 : (n - 2 ^ (k - 1)) % 2 ^ (k - (d + 1)) = n % 2 ^ (k - (d + 1)) := by
        conv => rhs; rw [show n = (n - 2 ^ (k - 1)) + 2 ^ d * 2 ^ (k - (d + 1)) by omega]
        rw [Nat.add_mul_mod_self_right]
      rw [e1, e2]
/-- Bits as elements. -/
def bE (bs : List Bool) : List (Nat × Nat) := bs.map fun b => if b then (0, 1) else (0, 0)
theorem bE_len (bs : List Bool) : (bE bs).length = bs.length := by simp [bE]
theorem bE_at (bs : List Bool) (i : Nat) : (bE bs).getD i (0, 0) = if bs.getD i false then (0, 1) else (0, 0) := by
  unfold bE
  by_cases h : i < bs.length
  · simp [List.getD, h]
  · simp [List.getD, h]
theorem bE_of (bs : List Bool) : ∀ e ∈ bE bs, ofB ((0 : Nat) : Int) (e.1 : Int) (e.2 : Int) = true := by
  intro e he
  unfold bE at he
  obtain ⟨b, _, rfl⟩ := List.mem_map.1 he
  cases b <;> decide
theorem bE_lt (bs : List Bool) : ltE (bE bs) := by
  intro e he
  unfold bE at he
  obtain ⟨b, _, rfl⟩ := List.mem_map.1 he
  cases b <;> decide
/-- Bits in memory, as a slice has them. -/
structure BRow (w : World) (a : Option Addr) (bs : List Bool) : Prop where
  cells : ∀ i, i < bs.length → ∃ b off : Nat, a = some ⟨b, off, none⟩ ∧ b < w.heap.size ∧ w.cell? ⟨b, off + i, none⟩ = some (.bool (bs.getD i false))
theorem BRow.below {w w' : World} {a : Option Addr} {bs : List Bool} (h : BRow w a bs) (hb : Below w.heap.size w w') : BRow w' a bs := ⟨fun i hi => by
  obtain ⟨b, off, h1, h2, h3⟩ := h.cells i hi
  exact ⟨b, off, h1, Nat.lt_of_lt_of_le h2 hb.size, keepc hb h3⟩⟩
theorem own_zero {w : World} {base : Nat} {T : TypeId} {g n : Nat} (h : w.ownsRow base T 2 (.slice (some ⟨g, 0, none⟩) n n) n (madeCells (Value.agg #[.int .u64 0, .int .u64 0]).cells (n * 2)).toList) : ∃ f, w.rowIs g T (n * 2) f ∧ ∀ i, i < n * 2 → f i = .int .u64 0 := by
  obtain ⟨f, hf⟩ := own_isRow h (rfl : n * 2 = n * 2)
  refine ⟨f, hf, fun i hi => ?_⟩
  have h1 := h.cellAt i hi
  rw [hf.cell hi] at h1
  have h2 : ((madeCells (Value.agg #[.int .u64 0, .int .u64 0]).cells (n * 2)).toList)[i]? = some (.int .u64 0) := by
    have hc : (Value.agg #[.int .u64 0, .int .u64 0]).cells = #[.int .u64 0, .int .u64 0] := by simp [Value.cells]
    unfold madeCells
    rw [hc]
    rcases Nat.mod_two_eq_zero_or_one i with h | h <;> simp [hi, h]
  rw [h2] at h1
  exact Option.some.inj h1
end Go.Proofs.Ytakaconhoodigaa

/- The walk of WeaveBits over the seat's translation, level by level. -/
namespace Go.Proofs.Ytakaconhoodigaa
open Go.RowKit

/-- Bits, gathered. -/
def gB (k q : Nat) (bs : List Bool) : List (Nat × Nat) := (List.range q).map fun i => jnd k k (((bE bs).drop (i * 2 ^ k)).take (2 ^ k))
theorem gB_len (k q : Nat) (bs : List Bool) : (gB k q bs).length = q := by simp [gB]
theorem gB_at (k q : Nat) (bs : List Bool) (i : Nat) (hi : i < q) : (gB k q bs).getD i (0, 0) = jnd k k (((bE bs).drop (i * 2 ^ k)).take (2 ^ k)) := by simp [gB, List.getD, hi]
theorem gB_part (k q : Nat) (bs : List Bool) (hq : bs.length = q * 2 ^ k) (i : Nat) (hi : i < q) : (((bE bs).drop (i * 2 ^ k)).take (2 ^ k)).length = 2 ^ k := by
  have hlt : (i + 1) * 2 ^ k ≤ bs.length := by rw [hq]; exact Nat.mul_le_mul_right _ hi
  rw [Nat.add_mul, Nat.one_mul] at hlt
  rw [List.length_take, List.length_drop, bE_len]; omega
theorem gB_parts (k : Nat) (bs : List Bool) (i : Nat) : ∀ e ∈ ((bE bs).drop (i * 2 ^ k)).take (2 ^ k), ofB ((k - k : Nat) : Int) (e.1 : Int) (e.2 : Int) = true := fun e he => by
  rw [Nat.sub_self]; exact bE_of bs e (List.mem_of_mem_drop (List.mem_of_mem_take he))
theorem gB_of (k q : Nat) (hk : k < 8) (bs : List Bool) (hq : bs.length = q * 2 ^ k) (i : Nat) (hi : i < q) : ofB (k : Int) (((gB k q bs).getD i (0, 0)).1 : Nat) (((gB k q bs).getD i (0, 0)).2 : Nat) = true := by
  rw [gB_at k q bs i hi]
  exact jnd_of k k _ (Nat.le_refl _) hk (gB_part k q bs hq i hi) (gB_parts k bs i)
theorem jn_lt (k : Nat) (hk : k < 8) (x y : Nat × Nat) (hx : x.2 < 2 ^ 64) (hy : y.2 < 2 ^ 64) (o : ofB (k : Int) ((jn k x y).1 : Nat) ((jn k x y).2 : Nat) = true) : (jn k x y).1 < 2 ^ 64 ∧ (jn k x y).2 < 2 ^ 64 := by
  by_cases h7 : k = 7
  · subst h7; exact ⟨hx, hy⟩
  · exact of_lt64 (by omega) o
theorem jnd_lt : ∀ (d k : Nat) (es : List (Nat × Nat)), d ≤ k → k < 8 → es.length = 2 ^ d → ltE es → (∀ e ∈ es, ofB ((k - d : Nat) : Int) (e.1 : Int) (e.2 : Int) = true) → (jnd d k es).1 < 2 ^ 64 ∧ (jnd d k es).2 < 2 ^ 64 := by
  intro d
  induction d with
  | zero => intro k es _ _ _ h _; exact h.at 0
  | succ d ih =>
    intro k es hd hk hl hes ho
    have hp : 2 ^ (d + 1) = 2 ^ d + 2 ^ d := by rw [Nat.pow_succ]; omega
    have hs : k - 1 - d = k - (d + 1) := by omega
    exact jn_lt k hk _ _ (ih (k - 1) _ (by omega) (by omega) (by rw [List.length_drop]; omega) (fun e he => hes e (List.mem_of_mem_drop he)) (fun e he => by rw [hs]; exact ho e (List.mem_of_mem_drop he))).2
      (ih (k - 1) _ (by omega) (by omega) (by rw [List.length_take]; omega) (fun e he => hes e (List.mem_of_mem_take he)) (fun e he => by rw [hs]; exact ho e (List.mem_of_mem_take he))).2 (jnd_of (d + 1) k es hd hk hl ho)
theorem gB_lt (k q : Nat) (hk : k < 8) (bs : List Bool) (hq : bs.length = q * 2 ^ k) (i : Nat) (hi : i < q) : ((gB k q bs).getD i (0, 0)).1 < 2 ^ 64 ∧ ((gB k q bs).getD i (0, 0)).2 < 2 ^ 64 := by
  rw [gB_at k q bs i hi]
  exact jnd_lt k k _ (Nat.le_refl _) hk (gB_part k q bs hq i hi) (fun e he => bE_lt bs e (List.mem_of_mem_drop (List.mem_of_mem_take he))) (gB_parts k bs i)
theorem gB_bit (k q : Nat) (hk : k < 8) (bs : List Bool) (hq : bs.length = q * 2 ^ k) (i : Nat) (hi : i < q) (m : Nat) (hm : m < 2 ^ k) : hasB ((gB k q bs).getD i (0, 0)).1 ((gB k q bs).getD i (0, 0)).2 m = bs.getD (i * 2 ^ k + m) false := by
  rw [gB_at k q bs i hi, jnd_has k k _ (Nat.le_refl _) hk (gB_part k q bs hq i hi) (gB_parts k bs i) m hm, Nat.sub_self, show (2 : Nat) ^ 0 = 1 by decide, Nat.div_one, Nat.mod_one, getD_take _ _ _ _ hm, getD_drop, bE_at]
  cases bs.getD (i * 2 ^ k + m) false <;> decide
end Go.Proofs.Ytakaconhoodigaa

/- Contracts of steepleref02.Mul and X over the seat's translation. -/
namespace Go.Proofs.Ytakaconhoodigaa
open Go.RowKit
open Tw (pm)

/-- Two elements and a room, as Mul lays them. -/
structure Mst (W w : World) (ah al bh bl : Nat) : Prop where
  a : Ew w W.heap.size ah al
  b : Ew w (W.heap.size + 1) bh bl
  r : Ew w (W.heap.size + 1 + 1) 0 0
  d : Below W.heap.size W w
theorem Mst.below {W w w' : World} {ah al bh bl : Nat} (h : Mst W w ah al bh bl) (hb : Below w.heap.size w w') : Mst W w' ah al bh bl :=
  ⟨h.a.below hb, h.b.below hb, h.r.below hb, h.d.trans (hb.mono h.d.size)⟩
theorem mst_new (W : World) (ah al bh bl : Nat) : Mst W (((W.alloc (Obj.cells #[.int .u64 (ah : Int), .int .u64 (al : Int)] 25)).alloc (Obj.cells #[.int .u64 (bh : Int), .int .u64 (bl : Int)] 25)).alloc (Obj.cells #[.int .u64 0, .int .u64 0] 25)) ah al bh bl :=
  ⟨⟨⟨by simp [go_sem], by simp [go_sem]⟩, by simp [go_sem], by simp [go_sem]⟩, ⟨⟨by simp [go_sem], by simp [go_sem]⟩, by simp [go_sem], by simp [go_sem]⟩, ⟨⟨by simp [go_sem], by simp [go_sem]⟩, by simp [go_sem], by simp [go_sem]⟩, by go_grown⟩
end Go.Proofs.Ytakaconhoodigaa
