/- Contracts of tower.MulX, Split and Join over the seat's translation. -/
import Derived.Test.YtcejppibcemdeaaTwBl
import Derived.Test.YtcejppibcemdeaaTwM
import Derived.Test.YtcejppibcemdeaaPWvD
namespace Go.Proofs.Ytcejppibcemdeaa
open Go.RowKit
open Tw (px)

theorem of_ret (l : Int) (ah al : Nat) (h2 : al < 2 ^ 64) : Ret 33 #[.int .i64 l, .agg #[.int .u64 (ah : Int), .int .u64 (al : Int)]] (.bool (ofB l ah al)) := fun W => of_any l ah al (by omega) (by omega) W

end Go.Proofs.Ytcejppibcemdeaa

/- The walk of tower.inverse over the seat's translation, one level. -/
namespace Go.Proofs.Ytcejppibcemdeaa
open Go.RowKit

end Go.Proofs.Ytcejppibcemdeaa

/- Contracts of tower.inverse, Inv and Div over the seat's translation: the inverse of the field. -/
namespace Go.Proofs.Ytcejppibcemdeaa
open Go.RowKit
open Tw (px ik gn)

theorem level_ret (hi lo : Nat) (hl : lo < 2 ^ 64) : Ret 71 #[.agg #[.int .u64 (hi : Int), .int .u64 (lo : Int)]] (.int .i64 (lvl hi lo)) := fun W => (level_any hi lo hl W).mono fun _ _ ⟨h1, h2⟩ => ⟨h1, by rw [h2]; exact (Below.refl _ _).alloc (Nat.le_refl _) _⟩

theorem add_ret (ah al bh bl : Nat) (h1 : ah < 2 ^ 64) (h2 : al < 2 ^ 64) (h3 : bh < 2 ^ 64) (h4 : bl < 2 ^ 64) : Ret 56 #[.agg #[.int .u64 (ah : Int), .int .u64 (al : Int)], .agg #[.int .u64 (bh : Int), .int .u64 (bl : Int)]] (.agg #[.int .u64 (ah ^^^ bh : Nat), .int .u64 (al ^^^ bl : Nat)]) := fun W => add_any ah al bh bl h1 h2 h3 h4 W
theorem add_low (a b : Nat) (h2 : a < 2 ^ 64) (h4 : b < 2 ^ 64) : Ret 56 #[.agg #[.int .u64 ((0 : Nat) : Int), .int .u64 (a : Int)], .agg #[.int .u64 ((0 : Nat) : Int), .int .u64 (b : Int)]] (.agg #[.int .u64 ((0 : Nat) : Int), .int .u64 (a ^^^ b : Nat)]) := add_ret 0 a 0 b (by decide) h2 (by decide) h4
theorem product_low (a b : Nat) (h2 : a < 2 ^ 64) (h4 : b < 2 ^ 64) : Ret 61 #[.agg #[.int .u64 ((0 : Nat) : Int), .int .u64 (a : Int)], .agg #[.int .u64 ((0 : Nat) : Int), .int .u64 (b : Int)]] (.agg #[.int .u64 ((0 : Nat) : Int), .int .u64 (px a b : Nat)]) := fun W => by
  have := product_any 0 a 0 b (by decide) h2 (by decide) h4 W
  rwa [Tw.pmh_low, Tw.pml_low] at this
theorem of_low_ret (l : Nat) (hl : l < 8) (a : Nat) (h : a < 2 ^ 2 ^ l) (h2 : a < 2 ^ 64) : Ret 33 #[.int .i64 (l : Int), .agg #[.int .u64 ((0 : Nat) : Int), .int .u64 (a : Int)]] (.bool true) := by
  have := of_ret l 0 a h2
  rwa [(ofB_iff l 0 a hl).2 (.inr ⟨rfl, h⟩)] at this
theorem div_int (a D : Nat) : (a : Int) / (D : Int) = ((a / D : Nat) : Int) := by simp
theorem or_join (u v m : Nat) (hu : u * 2 ^ m < 2 ^ 64) (hv : v < 2 ^ m) (hv2 : v < 2 ^ 64) : bits .or .u64 ((u * 2 ^ m : Nat) : Int) (v : Int) = ((2 ^ m * u + v : Nat) : Int) := by
  rw [u64_or_nat _ _ hu hv2, Nat.mul_comm u, Nat.two_pow_add_eq_or_of_lt hv]

theorem ik0 (a : Nat) (h : a < 2) : ik 0 a = a := by
  have h2 : a = 0 ∨ a = 1 := by omega
  rcases h2 with rfl | rfl <;> decide
end Go.Proofs.Ytcejppibcemdeaa

/- Contracts of tower.Join at any level, weave.joined of any parts and weave.allOf over the seat's translation. -/
namespace Go.Proofs.Ytcejppibcemdeaa
open Go.RowKit

theorem jn_of (k : Nat) (h1 : 1 ≤ k) (hk : k < 8) (x y : Nat × Nat) (ox : ofB ((k - 1 : Nat) : Int) (x.1 : Int) (x.2 : Int) = true) (oy : ofB ((k - 1 : Nat) : Int) (y.1 : Int) (y.2 : Int) = true) : ofB (k : Int) ((jn k x y).1 : Nat) ((jn k x y).2 : Nat) = true := by
  rw [ofB_iff _ _ _ (by omega)] at ox oy
  rw [ofB_iff _ _ _ hk]
  by_cases h7 : k = 7
  · exact .inl h7
  · right
    have ox := ox.resolve_left (by omega)
    have oy := oy.resolve_left (by omega)
    unfold jn
    rw [if_neg h7]
    refine ⟨rfl, ?_⟩
    show 2 ^ 2 ^ (k - 1) * x.2 + y.2 < 2 ^ 2 ^ k
    have e : 2 ^ 2 ^ k = 2 ^ 2 ^ (k - 1) * 2 ^ 2 ^ (k - 1) := by
      rw [← Nat.pow_add]; congr 1; obtain ⟨j, rfl⟩ : ∃ j, k = j + 1 := ⟨k - 1, by omega⟩; rw [Nat.add_sub_cancel, Nat.pow_succ]; omega
    rw [e]
    generalize 2 ^ 2 ^ (k - 1) = P at *
    have := Nat.mul_le_mul_left P (show x.2 + 1 ≤ P from ox.2)
    rw [Nat.mul_add, Nat.mul_one] at this
    omega
theorem of_lt64 {k : Nat} (hk : k < 7) {h l : Nat} (o : ofB (k : Int) (h : Int) (l : Int) = true) : h < 2 ^ 64 ∧ l < 2 ^ 64 := by
  rw [ofB_iff _ _ _ (by omega)] at o
  have o := o.resolve_left (by omega)
  refine ⟨by rw [o.1]; exact Nat.two_pow_pos 64, Nat.lt_of_lt_of_le o.2 ?_⟩
  exact Nat.pow_le_pow_right (by decide) (show 2 ^ k ≤ 2 ^ 6 from Nat.pow_le_pow_right (by decide) (by omega))
theorem jnd_of : ∀ (d k : Nat) (es : List (Nat × Nat)), d ≤ k → k < 8 → es.length = 2 ^ d → (∀ e ∈ es, ofB ((k - d : Nat) : Int) (e.1 : Int) (e.2 : Int) = true) → ofB (k : Int) ((jnd d k es).1 : Nat) ((jnd d k es).2 : Nat) = true := by
  intro d
  induction d with
  | zero =>
    intro k es _ _ hl ho
    cases es with
    | nil => simp at hl
    | cons e l => exact ho e (by simp)
  | succ d ih =>
    intro k es hd hk hl ho
    have hp : 2 ^ (d + 1) = 2 ^ d + 2 ^ d := by rw [Nat.pow_succ]; omega
    have hs : k - 1 - d = k - (d + 1) := by omega
    exact jn_of k (by omega) hk _ _ (ih (k - 1) _ (by omega) (by omega) (by rw [List.length_drop]; omega) (fun e he => by rw [hs]; exact ho e (List.mem_of_mem_drop he)))
      (ih (k - 1) _ (by omega) (by omega) (by rw [List.length_take]; omega) (fun e he => by rw [hs]; exact ho e (List.mem_of_mem_take he)))
end Go.Proofs.Ytcejppibcemdeaa

/- Contracts of slices.Clone, weave.Cut and steeplelaw09.awake over the seat's translation. -/
namespace Go.Proofs.Ytcejppibcemdeaa
open Go.RowKit

theorem flat_ones (es : List (Nat × Nat)) : ∀ u ∈ flat es, u.oneCell' = true := by
  intro u hu
  unfold flat at hu
  obtain ⟨e, _, he⟩ := List.mem_flatMap.1 hu
  simp at he
  rcases he with rfl | rfl <;> rfl
theorem ERow.flatOn {w : World} {b off : Nat} {es : List (Nat × Nat)} (h : ERow w (some ⟨b, off, none⟩) es) (j : Nat) (u : Value) (hu : (flat es)[j]? = some u) : w.cell? ((⟨b, off, none⟩ : Addr).add j) = some u := by
  have hj : j < es.length * 2 := by
    rw [← flat_len]
    obtain ⟨h1, _⟩ := List.getElem?_eq_some_iff.1 hu
    exact h1
  have ha : (⟨b, off, none⟩ : Addr).add j = ⟨b, off + j, none⟩ := by unfold Addr.add; split <;> simp_all
  rw [ha]
  have hi : j / 2 < es.length := by omega
  obtain ⟨b2, off2, e, _, c1, c0⟩ := h.cells (j / 2) hi
  have hf := flat_at es (j / 2) hi
  simp only [Option.some.injEq, Addr.mk.injEq] at e
  obtain ⟨rfl, rfl, _⟩ := e
  rcases Nat.mod_two_eq_zero_or_one j with h2 | h2
  · have e2 : j / 2 * 2 = j := by omega
    rw [e2] at c1 hf
    rw [hf.1] at hu
    rw [c1]; exact hu
  · have e2 : j / 2 * 2 + 1 = j := by omega
    rw [Nat.add_assoc, e2] at c0
    rw [e2] at hf
    rw [hf.2] at hu
    rw [c0]; exact hu
/-- A row of one's own, as elements. -/
theorem own_elems {w : World} {base : Nat} {T : TypeId} {v : Value} {es : List (Nat × Nat)} (h : w.ownsRow base T 2 v es.length (flat es)) :
    ∃ a b cap, v = .slice a es.length cap ∧ (es.length = 0 ∨ a = some ⟨b, 0, none⟩) ∧ es.length ≤ cap ∧ ERow w a es := by
  obtain ⟨a', cap', e, hE⟩ := own_row h
  rcases h.2 with ⟨h1, h0⟩ | ⟨g, cap, cur, e2, _, _, hn, _⟩
  · refine ⟨a', 0, cap', e, .inl h0, by omega, hE⟩
  · rw [e2] at e
    injection e with e3 e4 e5
    subst e3 e5
    exact ⟨_, g, cap, e2, .inr rfl, hn, hE⟩
theorem own_base {w : World} {base base' : Nat} {T : TypeId} {size n : Nat} {v : Value} {xs : List Value} (h : w.ownsRow base T size v n xs) (hb : base' ≤ base) : w.ownsRow base' T size v n xs := by
  obtain ⟨h1, h2⟩ := h
  refine ⟨h1, ?_⟩
  rcases h2 with h3 | ⟨g, cap, cur, e, hbb, rest⟩
  · exact .inl h3
  · exact .inr ⟨g, cap, cur, e, Nat.le_trans hb hbb, rest⟩
end Go.Proofs.Ytcejppibcemdeaa

/- Rows that came in; contracts of steeplelaw09.Few, of code's Encode of a nil code and of weave.Encode without a code, over the seat's translation; the walk of WeaveNone. -/
namespace Go.Proofs.Ytcejppibcemdeaa
open Go.RowKit

/-- Rows in memory: slices, as a slice has them. -/
structure Grid (w : World) (a : Option Addr) (ls : List (Option Addr × Nat × Nat)) : Prop where
  cells : ∀ i, i < ls.length → ∃ b off : Nat, a = some ⟨b, off, none⟩ ∧ b < w.heap.size ∧ w.cell? ⟨b, off + i, none⟩ = some (.slice (ls.getD i (none, 0, 0)).1 (ls.getD i (none, 0, 0)).2.1 (ls.getD i (none, 0, 0)).2.2)
theorem Grid.below {w w' : World} {a : Option Addr} {ls : List (Option Addr × Nat × Nat)} (h : Grid w a ls) (hb : Below w.heap.size w w') : Grid w' a ls := ⟨fun i hi => by
  obtain ⟨b, off, h1, h2, h3⟩ := h.cells i hi
  exact ⟨b, off, h1, Nat.lt_of_lt_of_le h2 hb.size, keepc hb h3⟩⟩
/-- Are rows no more than so many, and no longer than so many? -/
def fewB (ls : List (Option Addr × Nat × Nat)) (most long : Nat) : Bool := decide (ls.length ≤ most) && ls.all fun r => decide (r.2.1 ≤ long)
end Go.Proofs.Ytcejppibcemdeaa

/- Contracts of weave.width, steepleref09.Even and weave.sameLength over the seat's translation. -/
namespace Go.Proofs.Ytcejppibcemdeaa
open Go.RowKit

/-- Have rows one length? -/
def evenB (ls : List (Option Addr × Nat × Nat)) : Bool := ls.all fun r => decide (r.2.1 = (ls.getD 0 (none, 0, 0)).2.1)
theorem take_sg (ls : List (Option Addr × Nat × Nat)) (j : Nat) (h : j < ls.length) : ls.take (j + 1) = ls.take j ++ [ls.getD j (none, 0, 0)] := by rw [List.take_succ_eq_append_getElem h]; simp [h]
theorem mem_sg (ls : List (Option Addr × Nat × Nat)) (j : Nat) (h : j < ls.length) : ls.getD j (none, 0, 0) ∈ ls := by rw [show ls.getD j (none, 0, 0) = ls[j] by simp [h]]; exact List.getElem_mem h
end Go.Proofs.Ytcejppibcemdeaa
