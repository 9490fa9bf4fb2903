/- Contracts of tower.Join at any level, weave.joined of any parts and weave.allOf over the seat's translation. -/
import Derived.Test.YtnecjkdlmecgdaaPTwV
import Derived.Test.YtnecjkdlmecgdaaTwX
import Derived.Deep.OwnRows
import Derived.Test.YtnecjkdlmecgdaaPTwT
namespace Go.Proofs.Ytnecjkdlmecgdaa
open Go.RowKit

theorem join_ret (k : Nat) (h1 : 1 ≤ k) (hk : k < 8) (x y : Nat × Nat) (hx : x.1 < 2 ^ 64 ∧ x.2 < 2 ^ 64) (hy : y.1 < 2 ^ 64 ∧ y.2 < 2 ^ 64) (ox : ofB ((k - 1 : Nat) : Int) (x.1 : Int) (x.2 : Int) = true) (oy : ofB ((k - 1 : Nat) : Int) (y.1 : Int) (y.2 : Int) = true) :
    Ret 92 #[.int .i64 (k : Int), .agg #[.int .u64 (x.1 : Int), .int .u64 (x.2 : Int)], .agg #[.int .u64 (y.1 : Int), .int .u64 (y.2 : Int)]] (.agg #[.int .u64 ((jn k x y).1 : Nat), .int .u64 ((jn k x y).2 : Nat)]) := by
  have OX := of_ret ((k - 1 : Nat) : Int) x.1 x.2 hx.2
  have OY := of_ret ((k - 1 : Nat) : Int) y.1 y.2 hy.2
  rw [ox] at OX
  rw [oy] at OY
  rw [ofB_iff _ _ _ (by omega)] at ox oy
  obtain rfl | rfl | rfl | rfl | rfl | rfl | rfl : k = 1 ∨ k = 2 ∨ k = 3 ∨ k = 4 ∨ k = 5 ∨ k = 6 ∨ k = 7 := by omega
  · have ox := ox.resolve_left (by decide)
    have oy := oy.resolve_left (by decide)
    have e1 : x.2 < 2 := ox.2
    have e2 : y.2 < 2 := oy.2
    exact join1 x.1 x.2 y.1 y.2 (2 * x.2 + y.2) OX OY e1 (by
      show bits .or .u64 ((x.2 : Int) * ((2 : Nat) : Int)) (y.2 : Int) = _
      have := or_join x.2 y.2 1 (by rw [show (2 : Nat) ^ 1 = 2 by decide]; omega) (by rw [show (2 : Nat) ^ 1 = 2 by decide]; exact e2) hy.2
      rw [show (2 : Nat) ^ 1 = 2 by decide, Int.natCast_mul] at this
      exact this)
  · have ox := ox.resolve_left (by decide)
    have oy := oy.resolve_left (by decide)
    have e1 : x.2 < 4 := ox.2
    have e2 : y.2 < 4 := oy.2
    exact join2 x.1 x.2 y.1 y.2 (4 * x.2 + y.2) OX OY e1 (by
      show bits .or .u64 ((x.2 : Int) * ((4 : Nat) : Int)) (y.2 : Int) = _
      have := or_join x.2 y.2 2 (by rw [show (2 : Nat) ^ 2 = 4 by decide]; omega) (by rw [show (2 : Nat) ^ 2 = 4 by decide]; exact e2) hy.2
      rw [show (2 : Nat) ^ 2 = 4 by decide, Int.natCast_mul] at this
      exact this)
  · have ox := ox.resolve_left (by decide)
    have oy := oy.resolve_left (by decide)
    have e1 : x.2 < 16 := ox.2
    have e2 : y.2 < 16 := oy.2
    exact join3 x.1 x.2 y.1 y.2 (16 * x.2 + y.2) OX OY e1 (by
      show bits .or .u64 ((x.2 : Int) * ((16 : Nat) : Int)) (y.2 : Int) = _
      have := or_join x.2 y.2 4 (by rw [show (2 : Nat) ^ 4 = 16 by decide]; omega) (by rw [show (2 : Nat) ^ 4 = 16 by decide]; exact e2) hy.2
      rw [show (2 : Nat) ^ 4 = 16 by decide, Int.natCast_mul] at this
      exact this)
  · have ox := ox.resolve_left (by decide)
    have oy := oy.resolve_left (by decide)
    have e1 : x.2 < 256 := ox.2
    have e2 : y.2 < 256 := oy.2
    exact join4 x.1 x.2 y.1 y.2 (256 * x.2 + y.2) OX OY e1 (by
      show bits .or .u64 ((x.2 : Int) * ((256 : Nat) : Int)) (y.2 : Int) = _
      have := or_join x.2 y.2 8 (by rw [show (2 : Nat) ^ 8 = 256 by decide]; omega) (by rw [show (2 : Nat) ^ 8 = 256 by decide]; exact e2) hy.2
      rw [show (2 : Nat) ^ 8 = 256 by decide, Int.natCast_mul] at this
      exact this)
  · have ox := ox.resolve_left (by decide)
    have oy := oy.resolve_left (by decide)
    have e1 : x.2 < 65536 := ox.2
    have e2 : y.2 < 65536 := oy.2
    exact join5 x.1 x.2 y.1 y.2 (65536 * x.2 + y.2) OX OY e1 (by
      show bits .or .u64 ((x.2 : Int) * ((65536 : Nat) : Int)) (y.2 : Int) = _
      have := or_join x.2 y.2 16 (by rw [show (2 : Nat) ^ 16 = 65536 by decide]; omega) (by rw [show (2 : Nat) ^ 16 = 65536 by decide]; exact e2) hy.2
      rw [show (2 : Nat) ^ 16 = 65536 by decide, Int.natCast_mul] at this
      exact this)
  · have ox := ox.resolve_left (by decide)
    have oy := oy.resolve_left (by decide)
    have e1 : x.2 < 4294967296 := ox.2
    have e2 : y.2 < 4294967296 := oy.2
    exact join6 x.1 x.2 y.1 y.2 (4294967296 * x.2 + y.2) OX OY e1 (by
      show bits .or .u64 ((x.2 : Int) * ((4294967296 : Nat) : Int)) (y.2 : Int) = _
      have := or_join x.2 y.2 32 (by rw [show (2 : Nat) ^ 32 = 4294967296 by decide]; omega) (by rw [show (2 : Nat) ^ 32 = 4294967296 by decide]; exact e2) hy.2
      rw [show (2 : Nat) ^ 32 = 4294967296 by decide, Int.natCast_mul] at this
      exact this)
  · exact join7 x.1 x.2 y.1 y.2 OX OY
theorem jn_of (k : Nat) (h1 : 1 ≤ k) (hk : k < 8) (x y : Nat × Nat) (ox : ofB ((k - 1 : Nat) : Int) (x.1 : Int) (x.2 : Int) = true) (oy : ofB ((k - 1 : Nat) : Int) (y.1 : Int) (y.2 : Int) = true) : ofB (k : Int) ((jn k x y).1 : Nat) ((jn k x y).2 : Nat) = true := by
  rw [ofB_iff _ _ _ (by omega)] at ox oy
  rw [ofB_iff _ _ _ hk]
  by_cases h7 : k = 7
  · exact .inl h7
  · right
    have ox := ox.resolve_left (by omega)
    have oy := oy.resolve_left (by omega)
    unfold jn
    rw [if_neg h7]
    refine ⟨rfl, ?_⟩
    show 2 ^ 2 ^ (k - 1) * x.2 + y.2 < 2 ^ 2 ^ k
    have e : 2 ^ 2 ^ k = 2 ^ 2 ^ (k - 1) * 2 ^ 2 ^ (k - 1) := by
      rw [← Nat.pow_add]; congr 1; obtain ⟨j, rfl⟩ : ∃ j, k = j + 1 := ⟨k - 1, by omega⟩; rw [Nat.add_sub_cancel, Nat.pow_succ]; omega
    rw [e]
    generalize 2 ^ 2 ^ (k - 1) = P at *
    have := Nat.mul_le_mul_left P (show x.2 + 1 ≤ P from ox.2)
    rw [Nat.mul_add, Nat.mul_one] at this
    omega
theorem of_lt64 {k : Nat} (hk : k < 7) {h l : Nat} (o : ofB (k : Int) (h : Int) (l : Int) = true) : h < 2 ^ 64 ∧ l < 2 ^ 64 := by
  rw [ofB_iff _ _ _ (by omega)] at o
  have o := o.resolve_left (by omega)
  refine ⟨by rw [o.1]; exact Nat.two_pow_pos 64, Nat.lt_of_lt_of_le o.2 ?_⟩
  exact Nat.pow_le_pow_right (by decide) (show 2 ^ k ≤ 2 ^ 6 from Nat.pow_le_pow_right (by decide) (by omega))
theorem jnd_of : ∀ (d k : Nat) (es : List (Nat × Nat)), d ≤ k → k < 8 → es.length = 2 ^ d → (∀ e ∈ es, ofB ((k - d : Nat) : Int) (e.1 : Int) (e.2 : Int) = true) → ofB (k : Int) ((jnd d k es).1 : Nat) ((jnd d k es).2 : Nat) = true := by
  intro d
  induction d with
  | zero =>
    intro k es _ _ hl ho
    cases es with
    | nil => simp at hl
    | cons e l => exact ho e (by simp)
  | succ d ih =>
    intro k es hd hk hl ho
    have hp : 2 ^ (d + 1) = 2 ^ d + 2 ^ d := by rw [Nat.pow_succ]; omega
    have hs : k - 1 - d = k - (d + 1) := by omega
    exact jn_of k (by omega) hk _ _ (ih (k - 1) _ (by omega) (by omega) (by rw [List.length_drop]; omega) (fun e he => by rw [hs]; exact ho e (List.mem_of_mem_drop he)))
      (ih (k - 1) _ (by omega) (by omega) (by rw [List.length_take]; omega) (fun e he => by rw [hs]; exact ho e (List.mem_of_mem_take he)))
end Go.Proofs.Ytnecjkdlmecgdaa

/- Contracts of slices.Clone, weave.Cut and steeplelaw09.awake over the seat's translation. -/
namespace Go.Proofs.Ytnecjkdlmecgdaa
open Go.RowKit

theorem flat_ones (es : List (Nat × Nat)) : ∀ u ∈ flat es, u.oneCell' = true := by
  intro u hu
  unfold flat at hu
  obtain ⟨e, _, he⟩ := List.mem_flatMap.1 hu
  simp at he
  rcases he with rfl | rfl <;> rfl
theorem ERow.flatOn {w : World} {b off : Nat} {es : List (Nat × Nat)} (h : ERow w (some ⟨b, off, none⟩) es) (j : Nat) (u : Value) (hu : (flat es)[j]? = some u) : w.cell? ((⟨b, off, none⟩ : Addr).add j) = some u := by
  have hj : j < es.length * 2 := by
    rw [← flat_len]
    obtain ⟨h1, _⟩ := List.getElem?_eq_some_iff.1 hu
    exact h1
  have ha : (⟨b, off, none⟩ : Addr).add j = ⟨b, off + j, none⟩ := by unfold Addr.add; split <;> simp_all
  rw [ha]
  have hi : j / 2 < es.length := by omega
  obtain ⟨b2, off2, e, _, c1, c0⟩ := h.cells (j / 2) hi
  have hf := flat_at es (j / 2) hi
  simp only [Option.some.injEq, Addr.mk.injEq] at e
  obtain ⟨rfl, rfl, _⟩ := e
  rcases Nat.mod_two_eq_zero_or_one j with h2 | h2
  · have e2 : j / 2 * 2 = j := by omega
    rw [e2] at c1 hf
    rw [hf.1] at hu
    rw [c1]; exact hu
  · have e2 : j / 2 * 2 + 1 = j := by omega
    rw [Nat.add_assoc, e2] at c0
    rw [e2] at hf
    rw [hf.2] at hu
    rw [c0]; exact hu
/-- A row of one's own, as elements. -/
theorem own_elems {w : World} {base : Nat} {T : TypeId} {v : Value} {es : List (Nat × Nat)} (h : w.ownsRow base T 2 v es.length (flat es)) :
    ∃ a b cap, v = .slice a es.length cap ∧ (es.length = 0 ∨ a = some ⟨b, 0, none⟩) ∧ es.length ≤ cap ∧ ERow w a es := by
  obtain ⟨a', cap', e, hE⟩ := own_row h
  rcases h.2 with ⟨h1, h0⟩ | ⟨g, cap, cur, e2, _, _, hn, _⟩
  · refine ⟨a', 0, cap', e, .inl h0, by omega, hE⟩
  · rw [e2] at e
    injection e with e3 e4 e5
    subst e3 e5
    exact ⟨_, g, cap, e2, .inr rfl, hn, hE⟩
set_option maxHeartbeats 1000000 in
set_option maxRecDepth 100000 in
/-- A copy of elements. -/
theorem cloned (a : Option Addr) (cap : Nat) (es : List (Nat × Nat)) (h10 : es.length ≤ 100000) (ha : a = none → es.length = 0 ∧ cap = 0) (W : World) (hr : ERow W a es) :
    Calls Try.prog 44 #[.slice a es.length cap] W fun e w' => ∃ a' b' cap', e = .returned (.slice a' es.length cap') ∧ (es.length = 0 ∨ a' = some ⟨b', 0, none⟩) ∧ es.length ≤ cap' ∧ ERow w' a' es ∧ Below W.heap.size W w' := by
  rcases a with _ | x
  · obtain ⟨h1, h2⟩ := ha rfl
    obtain rfl : es = [] := List.eq_nil_of_length_eq_zero h1
    subst h2
    clear hr ha
    have he : ∀ w, (binOp .eql 22 (.slice none 0 0) (.slice none 0 0)).run Try.prog w = .ok (.bool true) w := fun w => Go.Lib.run_eql_slice_nil w 22 27 _ _ _ _ _ Try.underlying22
    go_enter Try.func44, Try.ntmps44
    go_wp2
    go_ret
    exact ⟨none, 0, 0, rfl, .inl (by first | rfl | trivial), Nat.zero_le _, ⟨fun i hi => by simp at hi⟩, Below.refl _ _⟩
  · obtain ⟨i0, hi, hz0, hz1, hz2⟩ := info_elem
    have HI : Hid (Try.prog.info? 27 = some i0 ∧ i0.zero = some (.agg #[.int .u64 0, .int .u64 0]) ∧ i0.size = 2 ∧ i0.bytes = 16) := ⟨hi, hz0, hz1, hz2⟩
    have HR : Hid (∀ w, Below W.heap.size W w → ∀ p u, (flat es)[p]? = some u → w.cell? (x.add p) = some u) := by
      intro w hb p u hu
      rcases Nat.eq_zero_or_pos es.length with h | h
      · rw [List.eq_nil_of_length_eq_zero h] at hu; simp [flat] at hu
      · obtain ⟨b, off, e, _⟩ := hr.cells 0 h
        injection e with e
        subst e
        exact (hr.below hb).flatOn p u hu
    clear hi hz0 hz1 hz2 hr ha
    have he : ∀ w, (binOp .eql 22 (.slice (some x) es.length cap) (.slice none 0 0)).run Try.prog w = .ok (.bool false) w := fun w => Go.Lib.run_eql_slice_nil w 22 27 _ _ _ _ _ Try.underlying22
    go_enter Try.func44, Try.ntmps44
    go_wp2_with (at_builtin; refine wpList_append_own _ rfl _ _ 22 rfl W.heap.size 27 i0 (.agg #[.int .u64 0, .int .u64 0]) 2 16 Try.underlying22 HI.out.1 HI.out.2.1 HI.out.2.2.1 HI.out.2.2.2 rfl (by decide) _ 0 [] rfl (World.ownsRow_made W #[] 0 (Nat.le_refl _) (by decide) rfl) x es.length cap (flat es) rfl (flat_len es) (fun p u hu => HR.out _ ((Below.refl _ _).alloc (Nat.le_refl _) _) p u hu) (flat_ones es) (by simp only [maxLen]; omega) (by omega) (by simp) ?_; intro v' w' hown' hgr _)
    rw [Nat.zero_add, List.nil_append] at hown'
    obtain ⟨a', b', cap', rfl, h1, h2, hE⟩ := own_elems hown'
    have HD : Hid (Below W.heap.size W w') := ((Below.refl _ _).alloc (Nat.le_refl _) _).grown hgr (by simp) fun k hk => ((World.ownsRow_made (e := 27) (size := 2) (base := W.heap.size) W #[] 0 (Nat.le_refl _) (by decide) rfl).lt k hk).1
    have HE : Hid (ERow w' a' es ∧ (es.length = 0 ∨ a' = some ⟨b', 0, none⟩) ∧ es.length ≤ cap') := ⟨hE, h1, h2⟩
    clear hE hown' hgr h1 h2
    go_wp2
    go_ret
    exact ⟨a', b', cap', rfl, HE.out.2.1, HE.out.2.2, HE.out.1, HD.out⟩
theorem own_base {w : World} {base base' : Nat} {T : TypeId} {size n : Nat} {v : Value} {xs : List Value} (h : w.ownsRow base T size v n xs) (hb : base' ≤ base) : w.ownsRow base' T size v n xs := by
  obtain ⟨h1, h2⟩ := h
  refine ⟨h1, ?_⟩
  rcases h2 with h3 | ⟨g, cap, cur, e, hbb, rest⟩
  · exact .inl h3
  · exact .inr ⟨g, cap, cur, e, Nat.le_trans hb hbb, rest⟩
end Go.Proofs.Ytnecjkdlmecgdaa

/- Contract of tower.Bits over the seat's translation: the walks, level by level. -/
namespace Go.Proofs.Ytnecjkdlmecgdaa
open Go.RowKit

theorem info_bool : ∃ i, Try.prog.info? 4 = some i ∧ i.zero = some (.bool false) ∧ i.size = 1 ∧ i.bytes = 1 := by
  have h : (Try.prog.info? 4).map (fun i => (i.zero, i.size, i.bytes)) = some (some (.bool false), 1, 1) := by kernel_rfl
  obtain ⟨i, hi, he⟩ := Option.map_eq_some_iff.1 h
  simp only [Prod.mk.injEq] at he
  exact ⟨i, hi, he.1, he.2.1, he.2.2⟩
theorem rowIs_below {w w' : World} {b : Nat} {t : TypeId} {n : Nat} {f : Nat → Value} (h : w.rowIs b t n f) (hb : Below w.heap.size w w') : w'.rowIs b t n f := h.of_block (hb.block b h.lt)
theorem row_step {w : World} {g : Nat} {t : TypeId} {n j : Nat} {hb : Nat → Bool} {b : Bool} (h : w.rowIs g t n fun i => .bool (decide (i < j) && hb i)) (e : hb j = b) : (w.setCell ⟨g, j, none⟩ (.bool b)).rowIs g t n fun i => .bool (decide (i < j + 1) && hb i) :=
  (h.set j (.bool b)).congr fun i _ => by
    show (if i = j then Value.bool b else Value.bool (decide (i < j) && hb i)) = _
    by_cases h1 : i = j
    · subst h1; rw [if_pos rfl, e, show decide (i < i + 1) = true by simp]; rfl
    · rw [if_neg h1]
      have : decide (i < j + 1) = decide (i < j) := by rw [decide_eq_decide]; omega
      rw [this]
end Go.Proofs.Ytnecjkdlmecgdaa

/- The contract of tower.Bits over the seat's translation, at any level. -/
namespace Go.Proofs.Ytnecjkdlmecgdaa
open Go.RowKit

theorem hasB_bit (h l j : Nat) (hj : j < 64) (hl : l < 2 ^ 64) : bits .and .u64 ((l : Int) / 2 ^ j) 1 = if hasB h l j = true then 1 else 0 := by
  rw [bit_nat l j hl]
  unfold hasB
  rw [if_pos hj, Nat.testBit_eq_decide_div_mod_eq]
  have := Nat.mod_two_eq_zero_or_one (l / 2 ^ j)
  rcases this with h1 | h1 <;> simp [h1]
theorem hasB_bit2 (h l j : Nat) (hj : ¬ j < 64) (hh : h < 2 ^ 64) : bits .and .u64 ((h : Int) / 2 ^ (j - 64)) 1 = if hasB h l j = true then 1 else 0 := by
  rw [bit_nat h (j - 64) hh]
  unfold hasB
  rw [if_neg hj, Nat.testBit_eq_decide_div_mod_eq]
  have := Nat.mod_two_eq_zero_or_one (h / 2 ^ (j - 64))
  rcases this with h1 | h1 <;> simp [h1]
end Go.Proofs.Ytnecjkdlmecgdaa

/- The bits of parts that are joined; contracts of weave.Gather's errors and of weave.Bits over the seat's translation. -/
namespace Go.Proofs.Ytnecjkdlmecgdaa
open Go.RowKit

theorem jn_has (k : Nat) (h1 : 1 ≤ k) (hk : k < 8) (x y : Nat × Nat) (oy : ofB ((k - 1 : Nat) : Int) (y.1 : Int) (y.2 : Int) = true) (n : Nat) (hn : n < 2 ^ k) :
    hasB (jn k x y).1 (jn k x y).2 n = if n < 2 ^ (k - 1) then hasB y.1 y.2 n else hasB x.1 x.2 (n - 2 ^ (k - 1)) := by
  unfold jn
  by_cases h7 : k = 7
  · subst h7
    rw [if_pos rfl]
    have e : (2 : Nat) ^ (7 - 1) = 64 := by decide
    have e2 : (2 : Nat) ^ 7 = 128 := by decide
    rw [e]; rw [e2] at hn
    unfold hasB
    by_cases h : n < 64
    · rw [if_pos h, if_pos h, if_pos h]
    · rw [if_neg h, if_neg h, if_pos (by omega)]
  · rw [if_neg h7]
    have h6 : 2 ^ k ≤ 2 ^ 6 := Nat.pow_le_pow_right (by decide) (by omega)
    have e : (2 : Nat) ^ 6 = 64 := by decide
    have hf : 0 < 2 ^ (k - 1) := Nat.two_pow_pos _
    rw [ofB_iff _ _ _ (by omega)] at oy
    have oy := oy.resolve_left (by omega)
    unfold hasB
    rw [if_pos (by omega)]
    show (2 ^ 2 ^ (k - 1) * x.2 + y.2).testBit n = _
    rw [Nat.testBit_two_pow_mul_add _ oy.2]
    by_cases h : n < 2 ^ (k - 1)
    · rw [if_pos h, if_pos h, if_pos (by omega)]
    · rw [if_neg h, if_neg h, if_pos (by omega)]
theorem getD_take {α : Type} (l : List α) (n i : Nat) (z : α) (h : i < n) : (l.take n).getD i z = l.getD i z := by simp [List.getD, h]
theorem getD_drop {α : Type} (l : List α) (n i : Nat) (z : α) : (l.drop n).getD i z = l.getD (n + i) z := by simp [List.getD]
/-- The bits of parts that are joined: those of the parts, one behind the other. -/
theorem jnd_has : ∀ (d k : Nat) (es : List (Nat × Nat)), d ≤ k → k < 8 → es.length = 2 ^ d → (∀ e ∈ es, ofB ((k - d : Nat) : Int) (e.1 : Int) (e.2 : Int) = true) → ∀ n, n < 2 ^ k →
    hasB (jnd d k es).1 (jnd d k es).2 n = hasB (es.getD (n / 2 ^ (k - d)) (0, 0)).1 (es.getD (n / 2 ^ (k - d)) (0, 0)).2 (n % 2 ^ (k - d)) := by
  intro d
  induction d with
  | zero =>
    intro k es _ _ hl _ n hn
    rw [Nat.sub_zero, Nat.div_eq_of_lt hn, Nat.mod_eq_of_lt hn]
    rfl
  | succ d ih =>
    intro k es hd hk hl ho n hn
    have hp : 2 ^ (d + 1) = 2 ^ d + 2 ^ d := by rw [Nat.pow_succ]; omega
    have hs : k - 1 - d = k - (d + 1) := by omega
    have ll : (es.take (2 ^ d)).length = 2 ^ d := by rw [List.length_take]; omega
    have lh : (es.drop (2 ^ d)).length = 2 ^ d := by rw [List.length_drop]; omega
    have oh : ∀ e ∈ es.drop (2 ^ d), ofB ((k - 1 - d : Nat) : Int) (e.1 : Int) (e.2 : Int) = true := fun e he => by rw [hs]; exact ho e (List.mem_of_mem_drop he)
    have ol : ∀ e ∈ es.take (2 ^ d), ofB ((k - 1 - d : Nat) : Int) (e.1 : Int) (e.2 : Int) = true := fun e he => by rw [hs]; exact ho e (List.mem_of_mem_take he)
    have hP : 2 ^ (k - 1) = 2 ^ d * 2 ^ (k - (d + 1)) := by rw [← Nat.pow_add]; congr 1; omega
    have hQ : 0 < 2 ^ (k - (d + 1)) := Nat.two_pow_pos _
    have hkk : 2 ^ k = 2 ^ (k - 1) + 2 ^ (k - 1) := by
      obtain ⟨j, rfl⟩ : ∃ j, k = j + 1 := ⟨k - 1, by omega⟩
      rw [Nat.add_sub_cancel, Nat.pow_succ]; omega
    show hasB (jn k _ _).1 (jn k _ _).2 n = _
    rw [jn_has k (by omega) hk _ _ (jnd_of d (k - 1) _ (by omega) (by omega) ll ol) n hn]
    by_cases h : n < 2 ^ (k - 1)
    · rw [if_pos h, ih (k - 1) _ (by omega) (by omega) ll ol n h, hs, getD_take _ _ _ _ (by rw [Nat.div_lt_iff_lt_mul hQ, ← hP]; exact h)]
    · rw [if_neg h, ih (k - 1) _ (by omega) (by omega) lh oh (n - 2 ^ (k - 1)) (by omega), hs, getD_drop]
      have e1 : 2 ^ d + (n - 2 ^ (k - 1)) / 2 ^ (k - (d + 1)) = n / 2 ^ (k - (d + 1)) := by
        conv => rhs; rw [show n = (n - 2 ^ (k - 1)) + 2 ^ d * 2 ^ (k - (d + 1)) by omega]
        rw [Nat.add_mul_div_right _ _ hQ]; omega
      have e2 : (n - 2 ^ (k - 1)) % 2 ^ (k - (d + 1)) = n % 2 ^ (k - (d + 1)) := by
        conv => rhs; rw [show n = (n - 2 ^ (k - 1)) + 2 ^ d * 2 ^ (k - (d + 1)) by omega]
        rw [Nat.add_mul_mod_self_right]
      rw [e1, e2]
/-- Bits as elements. -/
def bE (bs : List Bool) : List (Nat × Nat) := bs.map fun b => if b then (0, 1) else (0, 0)
theorem bE_len (bs : List Bool) : (bE bs).length = bs.length := by simp [bE]
theorem bE_at (bs : List Bool) (i : Nat) : (bE bs).getD i (0, 0) = if bs.getD i false then (0, 1) else (0, 0) := by
  unfold bE
  by_cases h : i < bs.length
  · simp [List.getD, h]
  · simp [List.getD, h]
theorem bE_of (bs : List Bool) : ∀ e ∈ bE bs, ofB ((0 : Nat) : Int) (e.1 : Int) (e.2 : Int) = true := by
  intro e he
  unfold bE at he
  obtain ⟨b, _, rfl⟩ := List.mem_map.1 he
  cases b <;> decide
theorem bE_lt (bs : List Bool) : ltE (bE bs) := by
  intro e he
  unfold bE at he
  obtain ⟨b, _, rfl⟩ := List.mem_map.1 he
  cases b <;> decide
/-- Bits in memory, as a slice has them. -/
structure BRow (w : World) (a : Option Addr) (bs : List Bool) : Prop where
  cells : ∀ i, i < bs.length → ∃ b off : Nat, a = some ⟨b, off, none⟩ ∧ b < w.heap.size ∧ w.cell? ⟨b, off + i, none⟩ = some (.bool (bs.getD i false))
theorem BRow.below {w w' : World} {a : Option Addr} {bs : List Bool} (h : BRow w a bs) (hb : Below w.heap.size w w') : BRow w' a bs := ⟨fun i hi => by
  obtain ⟨b, off, h1, h2, h3⟩ := h.cells i hi
  exact ⟨b, off, h1, Nat.lt_of_lt_of_le h2 hb.size, keepc hb h3⟩⟩
theorem own_zero {w : World} {base : Nat} {T : TypeId} {g n : Nat} (h : w.ownsRow base T 2 (.slice (some ⟨g, 0, none⟩) n n) n (madeCells (Value.agg #[.int .u64 0, .int .u64 0]).cells (n * 2)).toList) : ∃ f, w.rowIs g T (n * 2) f ∧ ∀ i, i < n * 2 → f i = .int .u64 0 := by
  obtain ⟨f, hf⟩ := own_isRow h (rfl : n * 2 = n * 2)
  refine ⟨f, hf, fun i hi => ?_⟩
  have h1 := h.cellAt i hi
  rw [hf.cell hi] at h1
  have h2 : ((madeCells (Value.agg #[.int .u64 0, .int .u64 0]).cells (n * 2)).toList)[i]? = some (.int .u64 0) := by
    have hc : (Value.agg #[.int .u64 0, .int .u64 0]).cells = #[.int .u64 0, .int .u64 0] := by simp [Value.cells]
    unfold madeCells
    rw [hc]
    rcases Nat.mod_two_eq_zero_or_one i with h | h <;> simp [hi, h]
  rw [h2] at h1
  exact Option.some.inj h1
end Go.Proofs.Ytnecjkdlmecgdaa
