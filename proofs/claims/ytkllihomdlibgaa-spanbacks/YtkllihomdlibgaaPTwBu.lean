/- Contracts of slices.Clone, weave.Cut and steeplelaw09.awake over the seat's translation. -/
import Derived.Test.YtkllihomdlibgaaPWvB
import Derived.Deep.OwnRows
import Derived.Test.YtkllihomdlibgaaPSlA
namespace Go.Proofs.Ytkllihomdlibgaa
open Go.RowKit

theorem flat_ones (es : List (Nat × Nat)) : ∀ u ∈ flat es, u.oneCell' = true := by
  intro u hu
  unfold flat at hu
  obtain ⟨e, _, he⟩ := List.mem_flatMap.1 hu
  simp at he
  rcases he with rfl | rfl <;> rfl
theorem ERow.flatOn {w : World} {b off : Nat} {es : List (Nat × Nat)} (h : ERow w (some ⟨b, off, none⟩) es) (j : Nat) (u : Value) (hu : (flat es)[j]? = some u) : w.cell? ((⟨b, off, none⟩ : Addr).add j) = some u := by
  have hj : j < es.length * 2 := by
    rw [← flat_len]
    obtain ⟨h1, _⟩ := List.getElem?_eq_some_iff.1 hu
    exact h1
  have ha : (⟨b, off, none⟩ : Addr).add j = ⟨b, off + j, none⟩ := by unfold Addr.add; split <;> simp_all
  rw [ha]
  have hi : j / 2 < es.length := by omega
  obtain ⟨b2, off2, e, _, c1, c0⟩ := h.cells (j / 2) hi
  have hf := flat_at es (j / 2) hi
  simp only [Option.some.injEq, Addr.mk.injEq] at e
  obtain ⟨rfl, rfl, _⟩ := e
  rcases Nat.mod_two_eq_zero_or_one j with h2 | h2
  · have e2 : j / 2 * 2 = j := by omega
    rw [e2] at c1 hf
    rw [hf.1] at hu
    rw [c1]; exact hu
  · have e2 : j / 2 * 2 + 1 = j := by omega
    rw [Nat.add_assoc, e2] at c0
    rw [e2] at hf
    rw [hf.2] at hu
    rw [c0]; exact hu
/-- A row of one's own, as elements. -/
theorem own_elems {w : World} {base : Nat} {T : TypeId} {v : Value} {es : List (Nat × Nat)} (h : w.ownsRow base T 2 v es.length (flat es)) :
    ∃ a b cap, v = .slice a es.length cap ∧ (es.length = 0 ∨ a = some ⟨b, 0, none⟩) ∧ es.length ≤ cap ∧ ERow w a es := by
  obtain ⟨a', cap', e, hE⟩ := own_row h
  rcases h.2 with ⟨h1, h0⟩ | ⟨g, cap, cur, e2, _, _, hn, _⟩
  · refine ⟨a', 0, cap', e, .inl h0, by omega, hE⟩
  · rw [e2] at e
    injection e with e3 e4 e5
    subst e3 e5
    exact ⟨_, g, cap, e2, .inr rfl, hn, hE⟩
theorem own_base {w : World} {base base' : Nat} {T : TypeId} {size n : Nat} {v : Value} {xs : List Value} (h : w.ownsRow base T size v n xs) (hb : base' ≤ base) : w.ownsRow base' T size v n xs := by
  obtain ⟨h1, h2⟩ := h
  refine ⟨h1, ?_⟩
  rcases h2 with h3 | ⟨g, cap, cur, e, hbb, rest⟩
  · exact .inl h3
  · exact .inr ⟨g, cap, cur, e, Nat.le_trans hb hbb, rest⟩
end Go.Proofs.Ytkllihomdlibgaa

/- Contract of tower.Bits over the seat's translation: the walks, level by level. -/
namespace Go.Proofs.Ytkllihomdlibgaa
open Go.RowKit

theorem info_bool : ∃ i, Try.prog.info? 4 = some i ∧ i.zero = some (.bool false) ∧ i.size = 1 ∧ i.bytes = 1 := by
  have h : (Try.prog.info? 4).map (fun i => (i.zero, i.size, i.bytes)) = some (some (.bool false), 1, 1) := by kernel_rfl
  obtain ⟨i, hi, he⟩ := Option.map_eq_some_iff.1 h
  simp only [Prod.mk.injEq] at he
  exact ⟨i, hi, he.1, he.2.1, he.2.2⟩
theorem rowIs_below {w w' : World} {b : Nat} {t : TypeId} {n : Nat} {f : Nat → Value} (h : w.rowIs b t n f) (hb : Below w.heap.size w w') : w'.rowIs b t n f := h.of_block (hb.block b h.lt)
theorem row_step {w : World} {g : Nat} {t : TypeId} {n j : Nat} {hb : Nat → Bool} {b : Bool} (h : w.rowIs g t n fun i => .bool (decide (i < j) && hb i)) (e : hb j = b) : (w.setCell ⟨g, j, none⟩ (.bool b)).rowIs g t n fun i => .bool (decide (i < j + 1) && hb i) :=
  (h.set j (.bool b)).congr fun i _ => by
    show (if i = j then Value.bool b else Value.bool (decide (i < j) && hb i)) = _
    by_cases h1 : i = j
    · subst h1; rw [if_pos rfl, e, show decide (i < i + 1) = true by simp]; rfl
    · rw [if_neg h1]
      have : decide (i < j + 1) = decide (i < j) := by rw [decide_eq_decide]; omega
      rw [this]
end Go.Proofs.Ytkllihomdlibgaa

/- The contract of tower.Bits over the seat's translation, at any level. -/
namespace Go.Proofs.Ytkllihomdlibgaa
open Go.RowKit

theorem hasB_bit (h l j : Nat) (hj : j < 64) (hl : l < 2 ^ 64) : bits .and .u64 ((l : Int) / 2 ^ j) 1 = if hasB h l j = true then 1 else 0 := by
  rw [bit_nat l j hl]
  unfold hasB
  rw [if_pos hj, Nat.testBit_eq_decide_div_mod_eq]
  have := Nat.mod_two_eq_zero_or_one (l / 2 ^ j)
  rcases this with h1 | h1 <;> simp [h1]
theorem hasB_bit2 (h l j : Nat) (hj : ¬ j < 64) (hh : h < 2 ^ 64) : bits .and .u64 ((h : Int) / 2 ^ (j - 64)) 1 = if hasB h l j = true then 1 else 0 := by
  rw [bit_nat h (j - 64) hh]
  unfold hasB
  rw [if_neg hj, Nat.testBit_eq_decide_div_mod_eq]
  have := Nat.mod_two_eq_zero_or_one (h / 2 ^ (j - 64))
  rcases this with h1 | h1 <;> simp [h1]
end Go.Proofs.Ytkllihomdlibgaa

/- The bits of parts that are joined; contracts of weave.Gather's errors and of weave.Bits over the seat's translation. -/
namespace Go.Proofs.Ytkllihomdlibgaa
open Go.RowKit

theorem jn_has (k : Nat) (h1 : 1 ≤ k) (hk : k < 8) (x y : Nat × Nat) (oy : ofB ((k - 1 : Nat) : Int) (y.1 : Int) (y.2 : Int) = true) (n : Nat) (hn : n < 2 ^ k) :
    hasB (jn k x y).1 (jn k x y).2 n = if n < 2 ^ (k - 1) then hasB y.1 y.2 n else hasB x.1 x.2 (n - 2 ^ (k - 1)) := by
  unfold jn
  by_cases h7 : k = 7
  · subst h7
    rw [if_pos rfl]
    have e : (2 : Nat) ^ (7 - 1) = 64 := by decide
    have e2 : (2 : Nat) ^ 7 = 128 := by decide
    rw [e]; rw [e2] at hn
    unfold hasB
    by_cases h : n < 64
    · rw [if_pos h, if_pos h, if_pos h]
    · rw [if_neg h, if_neg h, if_pos (by omega)]
  · rw [if_neg h7]
    have h6 : 2 ^ k ≤ 2 ^ 6 := Nat.pow_le_pow_right (by decide) (by omega)
    have e : (2 : Nat) ^ 6 = 64 := by decide
    have hf : 0 < 2 ^ (k - 1) := Nat.two_pow_pos _
    rw [ofB_iff _ _ _ (by omega)] at oy
    have oy := oy.resolve_left (by omega)
    unfold hasB
    rw [if_pos (by omega)]
    show (2 ^ 2 ^ (k - 1) * x.2 + y.2).testBit n = _
    rw [Nat.testBit_two_pow_mul_add _ oy.2]
    by_cases h : n < 2 ^ (k - 1)
    · rw [if_pos h, if_pos h, if_pos (by omega)]
    · rw [if_neg h, if_neg h, if_pos (by omega)]
theorem getD_take {α : Type} (l : List α) (n i : Nat) (z : α) (h : i < n) : (l.take n).getD i z = l.getD i z := by simp [List.getD, h]
theorem getD_drop {α : Type} (l : List α) (n i : Nat) (z : α) : (l.drop n).getD i z = l.getD (n + i) z := by simp [List.getD]
/-- The bits of parts that are joined: those of the parts, one behind the other. -/
theorem jnd_has : ∀ (d k : Nat) (es : List (Nat × Nat)), d ≤ k → k < 8 → es.length = 2 ^ d → (∀ e ∈ es, ofB ((k - d : Nat) : Int) (e.1 : Int) (e.2 : Int) = true) → ∀ n, n < 2 ^ k →
    hasB (jnd d k es).1 (jnd d k es).2 n = hasB (es.getD (n / 2 ^ (k - d)) (0, 0)).1 (es.getD (n / 2 ^ (k - d)) (0, 0)).2 (n % 2 ^ (k - d)) := by
  intro d
  induction d with
  | zero =>
    intro k es _ _ hl _ n hn
    rw [Nat.sub_zero, Nat.div_eq_of_lt hn, Nat.mod_eq_of_lt hn]
    rfl
  | succ d ih =>
    intro k es hd hk hl ho n hn
    have hp : 2 ^ (d + 1) = 2 ^ d + 2 ^ d := by rw [Nat.pow_succ]; omega
    have hs : k - 1 - d = k - (d + 1) := by omega
    have ll : (es.take (2 ^ d)).length = 2 ^ d := by rw [List.length_take]; omega
    have lh : (es.drop (2 ^ d)).length = 2 ^ d := by rw [List.length_drop]; omega
    have oh : ∀ e ∈ es.drop (2 ^ d), ofB ((k - 1 - d : Nat) : Int) (e.1 : Int) (e.2 : Int) = true := fun e he => by rw [hs]; exact ho e (List.mem_of_mem_drop he)
    have ol : ∀ e ∈ es.take (2 ^ d), ofB ((k - 1 - d : Nat) : Int) (e.1 : Int) (e.2 : Int) = true := fun e he => by rw [hs]; exact ho e (List.mem_of_mem_take he)
    have hP : 2 ^ (k - 1) = 2 ^ d * 2 ^ (k - (d + 1)) := by rw [← Nat.pow_add]; congr 1; omega
    have hQ : 0 < 2 ^ (k - (d + 1)) := Nat.two_pow_pos _
    have hkk : 2 ^ k = 2 ^ (k - 1) + 2 ^ (k - 1) := by
      obtain ⟨j, rfl⟩ : ∃ j, k = j + 1 := ⟨k - 1, by omega⟩
      rw [Nat.add_sub_cancel, Nat.pow_succ]; omega
    show hasB (jn k _ _).1 (jn k _ _).2 n = _
    rw [jn_has k (by omega) hk _ _ (jnd_of d (k - 1) _ (by omega) (by omega) ll ol) n hn]
    by_cases h : n < 2 ^ (k - 1)
    · rw [if_pos h, ih (k - 1) _ (by omega) (by omega) ll ol n h, hs, getD_take _ _ _ _ (by rw [Nat.div_lt_iff_lt_mul hQ, ← hP]; exact h)]
    · rw [if_neg h, ih (k - 1) _ (by omega) (by omega) lh oh (n - 2 ^ (k - 1)) (by omega), hs, getD_drop]
      have e1 : 2 ^ d + (n - 2 ^ (k - 1)) / 2 ^ (k - (d + 1)) = n / 2 ^ (k - (d + 1)) := by
        conv => rhs; rw [show n = (n - 2 ^ (k - 1)) + 2 ^ d * 2 ^ (k - (d + 1)) by omega]
        rw [Nat.add_mul_div_right _ _ hQ]; omega
      have e2 : (n - 2 ^ (k - 1)) % 2 ^ (k - (d + 1)) = n % 2 ^ (k - (d + 1)) := by
        conv => rhs; rw [show n = (n - 2 ^ (k - 1)) + 2 ^ d * 2 ^ (k - (d + 1)) by omega]
        rw [Nat.add_mul_mod_self_right]
      rw [e1, e2]
/-- Bits as elements. -/
def bE (bs : List Bool) : List (Nat × Nat) := bs.map fun b => if b then (0, 1) else (0, 0)
theorem bE_len (bs : List Bool) : (bE bs).length = bs.length := by simp [bE]
theorem bE_at (bs : List Bool) (i : Nat) : (bE bs).getD i (0, 0) = if bs.getD i false then (0, 1) else (0, 0) := by
  unfold bE
  by_cases h : i < bs.length
  · simp [List.getD, h]
  · simp [List.getD, h]
theorem bE_of (bs : List Bool) : ∀ e ∈ bE bs, ofB ((0 : Nat) : Int) (e.1 : Int) (e.2 : Int) = true := by
  intro e he
  unfold bE at he
  obtain ⟨b, _, rfl⟩ := List.mem_map.1 he
  cases b <;> decide
theorem bE_lt (bs : List Bool) : ltE (bE bs) := by
  intro e he
  unfold bE at he
  obtain ⟨b, _, rfl⟩ := List.mem_map.1 he
  cases b <;> decide
/-- Bits in memory, as a slice has them. -/
structure BRow (w : World) (a : Option Addr) (bs : List Bool) : Prop where
  cells : ∀ i, i < bs.length → ∃ b off : Nat, a = some ⟨b, off, none⟩ ∧ b < w.heap.size ∧ w.cell? ⟨b, off + i, none⟩ = some (.bool (bs.getD i false))
theorem BRow.below {w w' : World} {a : Option Addr} {bs : List Bool} (h : BRow w a bs) (hb : Below w.heap.size w w') : BRow w' a bs := ⟨fun i hi => by
  obtain ⟨b, off, h1, h2, h3⟩ := h.cells i hi
  exact ⟨b, off, h1, Nat.lt_of_lt_of_le h2 hb.size, keepc hb h3⟩⟩
theorem own_zero {w : World} {base : Nat} {T : TypeId} {g n : Nat} (h : w.ownsRow base T 2 (.slice (some ⟨g, 0, none⟩) n n) n (madeCells (Value.agg #[.int .u64 0, .int .u64 0]).cells (n * 2)).toList) : ∃ f, w.rowIs g T (n * 2) f ∧ ∀ i, i < n * 2 → f i = .int .u64 0 := by
  obtain ⟨f, hf⟩ := own_isRow h (rfl : n * 2 = n * 2)
  refine ⟨f, hf, fun i hi => ?_⟩
  have h1 := h.cellAt i hi
  rw [hf.cell hi] at h1
  have h2 : ((madeCells (Value.agg #[.int .u64 0, .int .u64 0]).cells (n * 2)).toList)[i]? = some (.int .u64 0) := by
    have hc : (Value.agg #[.int .u64 0, .int .u64 0]).cells = #[.int .u64 0, .int .u64 0] := by simp [Value.cells]
    unfold madeCells
    rw [hc]
    rcases Nat.mod_two_eq_zero_or_one i with h | h <;> simp [hi, h]
  rw [h2] at h1
  exact Option.some.inj h1
end Go.Proofs.Ytkllihomdlibgaa

/- The walk of WeaveBits over the seat's translation, level by level. -/
namespace Go.Proofs.Ytkllihomdlibgaa
open Go.RowKit

/-- Bits, gathered. -/
def gB (k q : Nat) (bs : List Bool) : List (Nat × Nat) := (List.range q).map fun i => jnd k k (((bE bs).drop (i * 2 ^ k)).take (2 ^ k))
theorem gB_len (k q : Nat) (bs : List Bool) : (gB k q bs).length = q := by simp [gB]
theorem gB_at (k q : Nat) (bs : List Bool) (i : Nat) (hi : i < q) : (gB k q bs).getD i (0, 0) = jnd k k (((bE bs).drop (i * 2 ^ k)).take (2 ^ k)) := by simp [gB, List.getD, hi]
theorem gB_part (k q : Nat) (bs : List Bool) (hq : bs.length = q * 2 ^ k) (i : Nat) (hi : i < q) : (((bE bs).drop (i * 2 ^ k)).take (2 ^ k)).length = 2 ^ k := by
  have hlt : (i + 1) * 2 ^ k ≤ bs.length := by rw [hq]; exact Nat.mul_le_mul_right _ hi
  rw [Nat.add_mul, Nat.one_mul] at hlt
  rw [List.length_take, List.length_drop, bE_len]; omega
theorem gB_parts (k : Nat) (bs : List Bool) (i : Nat) : ∀ e ∈ ((bE bs).drop (i * 2 ^ k)).take (2 ^ k), ofB ((k - k : Nat) : Int) (e.1 : Int) (e.2 : Int) = true := fun e he => by
  rw [Nat.sub_self]; exact bE_of bs e (List.mem_of_mem_drop (List.mem_of_mem_take he))
theorem gB_of (k q : Nat) (hk : k < 8) (bs : List Bool) (hq : bs.length = q * 2 ^ k) (i : Nat) (hi : i < q) : ofB (k : Int) (((gB k q bs).getD i (0, 0)).1 : Nat) (((gB k q bs).getD i (0, 0)).2 : Nat) = true := by
  rw [gB_at k q bs i hi]
  exact jnd_of k k _ (Nat.le_refl _) hk (gB_part k q bs hq i hi) (gB_parts k bs i)
theorem jn_lt (k : Nat) (hk : k < 8) (x y : Nat × Nat) (hx : x.2 < 2 ^ 64) (hy : y.2 < 2 ^ 64) (o : ofB (k : Int) ((jn k x y).1 : Nat) ((jn k x y).2 : Nat) = true) : (jn k x y).1 < 2 ^ 64 ∧ (jn k x y).2 < 2 ^ 64 := by
  by_cases h7 : k = 7
  · subst h7; exact ⟨hx, hy⟩
  · exact of_lt64 (by omega) o
theorem jnd_lt : ∀ (d k : Nat) (es : List (Nat × Nat)), d ≤ k → k < 8 → es.length = 2 ^ d → ltE es → (∀ e ∈ es, ofB ((k - d : Nat) : Int) (e.1 : Int) (e.2 : Int) = true) → (jnd d k es).1 < 2 ^ 64 ∧ (jnd d k es).2 < 2 ^ 64 := by
  intro d
  induction d with
  | zero => intro k es _ _ _ h _; exact h.at 0
  | succ d ih =>
    intro k es hd hk hl hes ho
    have hp : 2 ^ (d + 1) = 2 ^ d + 2 ^ d := by rw [Nat.pow_succ]; omega
    have hs : k - 1 - d = k - (d + 1) := by omega
    exact jn_lt k hk _ _ (ih (k - 1) _ (by omega) (by omega) (by rw [List.length_drop]; omega) (fun e he => hes e (List.mem_of_mem_drop he)) (fun e he => by rw [hs]; exact ho e (List.mem_of_mem_drop he))).2
      (ih (k - 1) _ (by omega) (by omega) (by rw [List.length_take]; omega) (fun e he => hes e (List.mem_of_mem_take he)) (fun e he => by rw [hs]; exact ho e (List.mem_of_mem_take he))).2 (jnd_of (d + 1) k es hd hk hl ho)
theorem gB_lt (k q : Nat) (hk : k < 8) (bs : List Bool) (hq : bs.length = q * 2 ^ k) (i : Nat) (hi : i < q) : ((gB k q bs).getD i (0, 0)).1 < 2 ^ 64 ∧ ((gB k q bs).getD i (0, 0)).2 < 2 ^ 64 := by
  rw [gB_at k q bs i hi]
  exact jnd_lt k k _ (Nat.le_refl _) hk (gB_part k q bs hq i hi) (fun e he => bE_lt bs e (List.mem_of_mem_drop (List.mem_of_mem_take he))) (gB_parts k bs i)
theorem gB_bit (k q : Nat) (hk : k < 8) (bs : List Bool) (hq : bs.length = q * 2 ^ k) (i : Nat) (hi : i < q) (m : Nat) (hm : m < 2 ^ k) : hasB ((gB k q bs).getD i (0, 0)).1 ((gB k q bs).getD i (0, 0)).2 m = bs.getD (i * 2 ^ k + m) false := by
  rw [gB_at k q bs i hi, jnd_has k k _ (Nat.le_refl _) hk (gB_part k q bs hq i hi) (gB_parts k bs i) m hm, Nat.sub_self, show (2 : Nat) ^ 0 = 1 by decide, Nat.div_one, Nat.mod_one, getD_take _ _ _ _ hm, getD_drop, bE_at]
  cases bs.getD (i * 2 ^ k + m) false <;> decide
end Go.Proofs.Ytkllihomdlibgaa

/- Contracts of steepleref02.Mul and X over the seat's translation. -/
namespace Go.Proofs.Ytkllihomdlibgaa
open Go.RowKit
open Tw (pm)

/-- Two elements and a room, as Mul lays them. -/
structure Mst (W w : World) (ah al bh bl : Nat) : Prop where
  a : Ew w W.heap.size ah al
  b : Ew w (W.heap.size + 1) bh bl
  r : Ew w (W.heap.size + 1 + 1) 0 0
  d : Below W.heap.size W w
theorem Mst.below {W w w' : World} {ah al bh bl : Nat} (h : Mst W w ah al bh bl) (hb : Below w.heap.size w w') : Mst W w' ah al bh bl :=
  ⟨h.a.below hb, h.b.below hb, h.r.below hb, h.d.trans (hb.mono h.d.size)⟩
theorem mst_new (W : World) (ah al bh bl : Nat) : Mst W (((W.alloc (Obj.cells #[.int .u64 (ah : Int), .int .u64 (al : Int)] 30)).alloc (Obj.cells #[.int .u64 (bh : Int), .int .u64 (bl : Int)] 30)).alloc (Obj.cells #[.int .u64 0, .int .u64 0] 30)) ah al bh bl :=
  ⟨⟨⟨by simp [go_sem], by simp [go_sem]⟩, by simp [go_sem], by simp [go_sem]⟩, ⟨⟨by simp [go_sem], by simp [go_sem]⟩, by simp [go_sem], by simp [go_sem]⟩, ⟨⟨by simp [go_sem], by simp [go_sem]⟩, by simp [go_sem], by simp [go_sem]⟩, by go_grown⟩
end Go.Proofs.Ytkllihomdlibgaa

/- Contracts of tower.Bit, Bits, Split and Join, and of steepleref02.Bit and Level, over the seat's translation. -/
namespace Go.Proofs.Ytkllihomdlibgaa
open Go.RowKit
open Tw (px pm)

/-- The pair with the bit n alone: none, where there is no such bit. -/
def bv (n : Int) : Nat × Nat := if 0 ≤ n ∧ n ≤ 127 then Tw.bitp n.toNat else (0, 0)
set_option maxHeartbeats 400000 in
theorem bit_low (n : Nat) (hn : n < 64) : Ret 31 #[.int .i64 (n : Int)] (.agg #[.int .u64 0, .int .u64 ((2 ^ n : Nat) : Int)]) := by
  intro W
  go_enter Try.func31, Try.ntmps31
  go_wp2
  refine bodyPost_ret (v := .agg #[.int .u64 0, .int .u64 (IntKind.u64.wrap (2 ^ n))]) (by simp [results, Try.results31, go_sem]) rfl ⟨by rw [wrap_pow n hn], ?_⟩
  go_grown
set_option maxHeartbeats 400000 in
theorem bit_high (n : Nat) (hn : 64 ≤ n) (hn2 : n < 128) : Ret 31 #[.int .i64 (n : Int)] (.agg #[.int .u64 ((2 ^ (n - 64) : Nat) : Int), .int .u64 0]) := by
  intro W
  go_enter Try.func31, Try.ntmps31
  go_wp2
  refine bodyPost_ret (v := .agg #[.int .u64 (IntKind.u64.wrap (2 ^ (n - 64))), .int .u64 0]) (by simp [results, Try.results31, go_sem]) rfl ⟨by rw [wrap_pow (n - 64) (by omega)], ?_⟩
  go_grown
set_option maxHeartbeats 800000 in
theorem bit_none (n : Int) (h : ¬ (0 ≤ n ∧ n ≤ 127)) : Ret 31 #[.int .i64 n] (.agg #[.int .u64 0, .int .u64 0]) := by
  intro W
  by_cases h0 : 0 ≤ n
  · have h7 : ¬ n ≤ 127 := fun h7 => h ⟨h0, h7⟩
    clear h
    go_enter Try.func31, Try.ntmps31
    go_wp2
    refine bodyPost_ret (v := .agg #[.int .u64 0, .int .u64 0]) (by simp [results, Try.results31, go_sem]) rfl ⟨rfl, ?_⟩
    go_grown
  · clear h
    go_enter Try.func31, Try.ntmps31
    go_wp2
    refine bodyPost_ret (v := .agg #[.int .u64 0, .int .u64 0]) (by simp [results, Try.results31, go_sem]) rfl ⟨rfl, ?_⟩
    go_grown
set_option maxHeartbeats 800000 in
theorem rbit_none (n : Int) (h : ¬ (0 ≤ n ∧ n ≤ 127)) : Ret 41 #[.int .i64 n] (.agg #[.int .u64 0, .int .u64 0]) := by
  intro W
  by_cases h0 : 0 ≤ n
  · have h7 : ¬ n ≤ 127 := fun h7 => h ⟨h0, h7⟩
    clear h
    go_enter Try.func41, Try.ntmps41
    go_wp2
    refine bodyPost_ret (v := .agg #[.int .u64 0, .int .u64 0]) (by simp [results, Try.results41, go_sem]) rfl ⟨rfl, ?_⟩
    go_grown
  · clear h
    go_enter Try.func41, Try.ntmps41
    go_wp2
    refine bodyPost_ret (v := .agg #[.int .u64 0, .int .u64 0]) (by simp [results, Try.results41, go_sem]) rfl ⟨rfl, ?_⟩
    go_grown
theorem bit_any (n : Int) : Ret 31 #[.int .i64 n] (.agg #[.int .u64 ((bv n).1 : Int), .int .u64 ((bv n).2 : Int)]) := by
  unfold bv
  by_cases h : 0 ≤ n ∧ n ≤ 127
  · rw [if_pos h]
    obtain ⟨m, rfl⟩ : ∃ m : Nat, n = (m : Int) := ⟨n.toNat, by omega⟩
    rw [Int.toNat_natCast]
    unfold Tw.bitp
    by_cases h2 : m < 64
    · rw [if_pos h2]; exact bit_low m h2
    · rw [if_neg h2]; exact bit_high m (by omega) (by omega)
  · rw [if_neg h]; exact bit_none n h
theorem rbit_any (n : Int) : Ret 41 #[.int .i64 n] (.agg #[.int .u64 ((bv n).1 : Int), .int .u64 ((bv n).2 : Int)]) := by
  unfold bv
  by_cases h : 0 ≤ n ∧ n ≤ 127
  · rw [if_pos h]
    obtain ⟨m, rfl⟩ : ∃ m : Nat, n = (m : Int) := ⟨n.toNat, by omega⟩
    rw [Int.toNat_natCast]
    unfold Tw.bitp
    by_cases h2 : m < 64
    · rw [if_pos h2]; exact rbit_low m h2
    · rw [if_neg h2]; exact rbit_high m (by omega) (by omega)
  · rw [if_neg h]; exact rbit_none n h

end Go.Proofs.Ytkllihomdlibgaa
