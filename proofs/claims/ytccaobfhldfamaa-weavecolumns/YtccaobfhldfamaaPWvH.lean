/- Contract of tower.Bits over the seat's translation: the walks, level by level. -/
import Derived.Test.YtccaobfhldfamaaRfE
import Derived.Deep.OwnRows
import Derived.Test.YtccaobfhldfamaaTwT
import Derived.Test.YtccaobfhldfamaaTwPx
import Derived.Test.YtccaobfhldfamaaWvF
namespace Go.Proofs.Ytccaobfhldfamaa
open Go.RowKit

theorem info_bool : ∃ i, Try.prog.info? 4 = some i ∧ i.zero = some (.bool false) ∧ i.size = 1 ∧ i.bytes = 1 := by
  have h : (Try.prog.info? 4).map (fun i => (i.zero, i.size, i.bytes)) = some (some (.bool false), 1, 1) := by kernel_rfl
  obtain ⟨i, hi, he⟩ := Option.map_eq_some_iff.1 h
  simp only [Prod.mk.injEq] at he
  exact ⟨i, hi, he.1, he.2.1, he.2.2⟩
theorem rowIs_below {w w' : World} {b : Nat} {t : TypeId} {n : Nat} {f : Nat → Value} (h : w.rowIs b t n f) (hb : Below w.heap.size w w') : w'.rowIs b t n f := h.of_block (hb.block b h.lt)
theorem row_step {w : World} {g : Nat} {t : TypeId} {n j : Nat} {hb : Nat → Bool} {b : Bool} (h : w.rowIs g t n fun i => .bool (decide (i < j) && hb i)) (e : hb j = b) : (w.setCell ⟨g, j, none⟩ (.bool b)).rowIs g t n fun i => .bool (decide (i < j + 1) && hb i) :=
  (h.set j (.bool b)).congr fun i _ => by
    show (if i = j then Value.bool b else Value.bool (decide (i < j) && hb i)) = _
    by_cases h1 : i = j
    · subst h1; rw [if_pos rfl, e, show decide (i < i + 1) = true by simp]; rfl
    · rw [if_neg h1]
      have : decide (i < j + 1) = decide (i < j) := by rw [decide_eq_decide]; omega
      rw [this]
end Go.Proofs.Ytccaobfhldfamaa

/- The contract of tower.Bits over the seat's translation, at any level. -/
namespace Go.Proofs.Ytccaobfhldfamaa
open Go.RowKit

theorem hasB_bit (h l j : Nat) (hj : j < 64) (hl : l < 2 ^ 64) : bits .and .u64 ((l : Int) / 2 ^ j) 1 = if hasB h l j = true then 1 else 0 := by
  rw [bit_nat l j hl]
  unfold hasB
  rw [if_pos hj, Nat.testBit_eq_decide_div_mod_eq]
  have := Nat.mod_two_eq_zero_or_one (l / 2 ^ j)
  rcases this with h1 | h1 <;> simp [h1]
theorem hasB_bit2 (h l j : Nat) (hj : ¬ j < 64) (hh : h < 2 ^ 64) : bits .and .u64 ((h : Int) / 2 ^ (j - 64)) 1 = if hasB h l j = true then 1 else 0 := by
  rw [bit_nat h (j - 64) hh]
  unfold hasB
  rw [if_neg hj, Nat.testBit_eq_decide_div_mod_eq]
  have := Nat.mod_two_eq_zero_or_one (h / 2 ^ (j - 64))
  rcases this with h1 | h1 <;> simp [h1]
end Go.Proofs.Ytccaobfhldfamaa

/- The bits of parts that are joined; contracts of weave.Gather's errors and of weave.Bits over the seat's translation. -/
namespace Go.Proofs.Ytccaobfhldfamaa
open Go.RowKit

theorem jn_has (k : Nat) (h1 : 1 ≤ k) (hk : k < 8) (x y : Nat × Nat) (oy : ofB ((k - 1 : Nat) : Int) (y.1 : Int) (y.2 : Int) = true) (n : Nat) (hn : n < 2 ^ k) :
    hasB (jn k x y).1 (jn k x y).2 n = if n < 2 ^ (k - 1) then hasB y.1 y.2 n else hasB x.1 x.2 (n - 2 ^ (k - 1)) := by
  unfold jn
  by_cases h7 : k = 7
  · subst h7
    rw [if_pos rfl]
    have e : (2 : Nat) ^ (7 - 1) = 64 := by decide
    have e2 : (2 : Nat) ^ 7 = 128 := by decide
    rw [e]; rw [e2] at hn
    unfold hasB
    by_cases h : n < 64
    · rw [if_pos h, if_pos h, if_pos h]
    · rw [if_neg h, if_neg h, if_pos (by omega)]
  · rw [if_neg h7]
    have h6 : 2 ^ k ≤ 2 ^ 6 := Nat.pow_le_pow_right (by decide) (by omega)
    have e : (2 : Nat) ^ 6 = 64 := by decide
    have hf : 0 < 2 ^ (k - 1) := Nat.two_pow_pos _
    rw [ofB_iff _ _ _ (by omega)] at oy
    have oy := oy.resolve_left (by omega)
    unfold hasB
    rw [if_pos (by omega)]
    show (2 ^ 2 ^ (k - 1) * x.2 + y.2).testBit n = _
    rw [Nat.testBit_two_pow_mul_add _ oy.2]
    by_cases h : n < 2 ^ (k - 1)
    · rw [if_pos h, if_pos h, if_pos (by omega)]
    · rw [if_neg h, if_neg h, if_pos (by omega)]
theorem getD_take {α : Type} (l : List α) (n i : Nat) (z : α) (h : i < n) : (l.take n).getD i z = l.getD i z := by simp [List.getD, h]
theorem getD_drop {α : Type} (l : List α) (n i : Nat) (z : α) : (l.drop n).getD i z = l.getD (n + i) z := by simp [List.getD]
/-- The bits of parts that are joined: those of the parts, one behind the other. -/
theorem jnd_has : ∀ (d k : Nat) (es : List (Nat × Nat)), d ≤ k → k < 8 → es.length = 2 ^ d → (∀ e ∈ es, ofB ((k - d : Nat) : Int) (e.1 : Int) (e.2 : Int) = true) → ∀ n, n < 2 ^ k →
    hasB (jnd d k es).1 (jnd d k es).2 n = hasB (es.getD (n / 2 ^ (k - d)) (0, 0)).1 (es.getD (n / 2 ^ (k - d)) (0, 0)).2 (n % 2 ^ (k - d)) := by
  intro d
  induction d with
  | zero =>
    intro k es _ _ hl _ n hn
    rw [Nat.sub_zero, Nat.div_eq_of_lt hn, Nat.mod_eq_of_lt hn]
    rfl
  | succ d ih =>
    intro k es hd hk hl ho n hn
    have hp : 2 ^ (d + 1) = 2 ^ d + 2 ^ d := by rw [Nat.pow_succ]; omega
    have hs : k - 1 - d = k - (d + 1) := by omega
    have ll : (es.take (2 ^ d)).length = 2 ^ d := by rw [List.length_take]; omega
    have lh : (es.drop (2 ^ d)).length = 2 ^ d := by rw [List.length_drop]; omega
    have oh : ∀ e ∈ es.drop (2 ^ d), ofB ((k - 1 - d : Nat) : Int) (e.1 : Int) (e.2 : Int) = true := fun e he => by rw [hs]; exact ho e (List.mem_of_mem_drop he)
    have ol : ∀ e ∈ es.take (2 ^ d), ofB ((k - 1 - d : Nat) : Int) (e.1 : Int) (e.2 : Int) = true := fun e he => by rw [hs]; exact ho e (List.mem_of_mem_take he)
    have hP : 2 ^ (k - 1) = 2 ^ d * 2 ^ (k - (d + 1)) := by rw [← Nat.pow_add]; congr 1; omega
    have hQ : 0 < 2 ^ (k - (d + 1)) := Nat.two_pow_pos _
    have hkk : 2 ^ k = 2 ^ (k - 1) + 2 ^ (k - 1) := by
      obtain ⟨j, rfl⟩ : ∃ j, k = j + 1 := ⟨k - 1, by omega⟩
      rw [Nat.add_sub_cancel, Nat.pow_succ]; omega
    show hasB (jn k _ _).1 (jn k _ _).2 n = _
    rw [jn_has k (by omega) hk _ _ (jnd_of d (k - 1) _ (by omega) (by omega) ll ol) n hn]
    by_cases h : n < 2 ^ (k - 1)
    · rw [if_pos h, ih (k - 1) _ (by omega) (by omega) ll ol n h, hs, getD_take _ _ _ _ (by rw [Nat.div_lt_iff_lt_mul hQ, ← hP]; exact h)]
    · rw [if_neg h, ih (k - 1) _ (by omega) (by omega) lh oh (n - 2 ^ (k - 1)) (by omega), hs, getD_drop]
      have e1 : 2 ^ d + (n - 2 ^ (k - 1)) / 2 ^ (k - (d + 1)) = n / 2 ^ (k - (d + 1)) := by
        conv => rhs; rw [show n = (n - 2 ^ (k - 1)) + 2 ^ d * 2 ^ (k - (d + 1)) by omega]
        rw [Nat.add_mul_div_right _ _ hQ]; omega
      have e2 : (n - 2 ^ (k - 1)) % 2 ^ (k - (d + 1)) = n % 2 ^ (k - (d + 1)) := by
        conv => rhs; rw [show n = (n - 2 ^ (k - 1)) + 2 ^ d * 2 ^ (k - (d + 1)) by omega]
        rw [Nat.add_mul_mod_self_right]
      rw [e1, e2]
/-- Bits as elements. -/
def bE (bs : List Bool) : List (Nat × Nat) := bs.map fun b => if b then (0, 1) else (0, 0)
theorem bE_len (bs : List Bool) : (bE bs).length = bs.length := by simp [bE]
theorem bE_at (bs : List Bool) (i : Nat) : (bE bs).getD i (0, 0) = if bs.getD i false then (0, 1) else (0, 0) := by
  unfold bE
  by_cases h : i < bs.length
  · simp [List.getD, h]
  · simp [List.getD, h]
theorem bE_of (bs : List Bool) : ∀ e ∈ bE bs, ofB ((0 : Nat) : Int) (e.1 : Int) (e.2 : Int) = true := by
  intro e he
  unfold bE at he
  obtain ⟨b, _, rfl⟩ := List.mem_map.1 he
  cases b <;> decide
theorem bE_lt (bs : List Bool) : ltE (bE bs) := by
  intro e he
  unfold bE at he
  obtain ⟨b, _, rfl⟩ := List.mem_map.1 he
  cases b <;> decide
theorem isUp_no (f t : Int) (h : ¬ (0 ≤ f ∧ f ≤ t ∧ t ≤ 7)) : Ret 23 #[.int .i64 f, .int .i64 t] (.bool false) := by
  intro W
  by_cases h0 : 0 ≤ f
  · by_cases h1 : f ≤ t
    · have h2 : ¬ t ≤ 7 := fun h2 => h ⟨h0, h1, h2⟩
      clear h
      go_enter Try.func23, Try.ntmps23
      go_wp2
      refine bodyPost_ret (v := .bool false) (by simp [results, Try.results23, go_sem, *]) rfl ⟨rfl, ?_⟩
      first | exact Below.refl _ _ | go_grown
    · clear h
      go_enter Try.func23, Try.ntmps23
      go_wp2
      refine bodyPost_ret (v := .bool false) (by simp [results, Try.results23, go_sem, *]) rfl ⟨rfl, ?_⟩
      first | exact Below.refl _ _ | go_grown
  · clear h
    go_enter Try.func23, Try.ntmps23
    go_wp2
    refine bodyPost_ret (v := .bool false) (by simp [results, Try.results23, go_sem, *]) rfl ⟨rfl, ?_⟩
    first | exact Below.refl _ _ | go_grown
set_option maxHeartbeats 400000 in
theorem gather_arg (f t : Int) (h : ¬ (0 ≤ f ∧ f ≤ t ∧ t ≤ 7)) (v : Value) : Ret 13 #[.int .i64 f, .int .i64 t, v] (.tuple #[.slice none 0 0, .int .i64 1]) := by
  intro W
  have HU := isUp_no f t h
  clear h
  go_enter Try.func13, Try.ntmps13
  go_wp2_with fail
  refine (HU.go _).mono ?_
  rintro e w1 ⟨rfl, hb1⟩
  go_wp2
  refine bodyPost_ret (v := .tuple #[.slice none 0 0, .int .i64 1]) (by simp [results, Try.results13, go_sem]) rfl ⟨rfl, ?_⟩
  exact hb1
set_option maxHeartbeats 400000 in
theorem gather_size (f t d each : Nat) (hd : f + d = t) (ht : t < 8) (he : each = 2 ^ d) (a : Option Addr) (n cap : Nat) (hn : ¬ n % each = 0) : Ret 13 #[.int .i64 (f : Int), .int .i64 (t : Int), .slice a n cap] (.tuple #[.slice none 0 0, .int .i64 6]) := by
  intro W
  have HU : Hid (Ret 23 #[.int .i64 (f : Int), .int .i64 (t : Int)] (.bool true)) := isUp_ok _ _ (by omega) (by omega) (by omega)
  have hep : 0 < each := by rw [he]; exact Nat.two_pow_pos d
  have h1 : IntKind.i64.wrap ((t : Int) - f) = (d : Int) := by rw [IntKind.wrap_i64]; omega
  have h2 : IntKind.i64.wrap (2 ^ d) = (each : Int) := by
    have h1 : 2 ^ d < 2 ^ 8 := Nat.pow_lt_pow_right (by decide) (by omega)
    rw [IntKind.wrap_i64, show (2 : Int) ^ d = ((2 ^ d : Nat) : Int) by simp, he]
    generalize 2 ^ d = p at *
    omega
  obtain ⟨m, hm⟩ : ∃ m : Nat, n % each = m := ⟨_, rfl⟩
  have h3 : (n : Int).tmod (each : Int) = (m : Int) := by rw [Int.tmod_eq_emod_of_nonneg (by omega), ← hm]; simp
  have h4 : ¬ (m : Int) = 0 := by omega
  have h5 : ¬ (each : Int) = 0 := by omega
  have h6 : (0 : Int) ≤ (d : Int) := by omega
  have h7 : (d : Int) < 64 := by omega
  clear he hd hn hm
  go_enter Try.func13, Try.ntmps13
  go_wp2_with fail
  refine (HU.out.go _).mono ?_
  rintro e w1 ⟨rfl, hb1⟩
  have HB : Hid (Below W.heap.size W w1) := hb1
  clear hb1
  go_wp2
  refine bodyPost_ret (v := .tuple #[.slice none 0 0, .int .i64 6]) (by simp [results, Try.results13, go_sem]) rfl ⟨rfl, ?_⟩
  exact HB.out

/-- Bits in memory, as a slice has them. -/
structure BRow (w : World) (a : Option Addr) (bs : List Bool) : Prop where
  cells : ∀ i, i < bs.length → ∃ b off : Nat, a = some ⟨b, off, none⟩ ∧ b < w.heap.size ∧ w.cell? ⟨b, off + i, none⟩ = some (.bool (bs.getD i false))
theorem BRow.below {w w' : World} {a : Option Addr} {bs : List Bool} (h : BRow w a bs) (hb : Below w.heap.size w w') : BRow w' a bs := ⟨fun i hi => by
  obtain ⟨b, off, h1, h2, h3⟩ := h.cells i hi
  exact ⟨b, off, h1, Nat.lt_of_lt_of_le h2 hb.size, keepc hb h3⟩⟩
theorem own_zero {w : World} {base : Nat} {T : TypeId} {g n : Nat} (h : w.ownsRow base T 2 (.slice (some ⟨g, 0, none⟩) n n) n (madeCells (Value.agg #[.int .u64 0, .int .u64 0]).cells (n * 2)).toList) : ∃ f, w.rowIs g T (n * 2) f ∧ ∀ i, i < n * 2 → f i = .int .u64 0 := by
  obtain ⟨f, hf⟩ := own_isRow h (rfl : n * 2 = n * 2)
  refine ⟨f, hf, fun i hi => ?_⟩
  have h1 := h.cellAt i hi
  rw [hf.cell hi] at h1
  have h2 : ((madeCells (Value.agg #[.int .u64 0, .int .u64 0]).cells (n * 2)).toList)[i]? = some (.int .u64 0) := by
    have hc : (Value.agg #[.int .u64 0, .int .u64 0]).cells = #[.int .u64 0, .int .u64 0] := by simp [Value.cells]
    unfold madeCells
    rw [hc]
    rcases Nat.mod_two_eq_zero_or_one i with h | h <;> simp [hi, h]
  rw [h2] at h1
  exact Option.some.inj h1
end Go.Proofs.Ytccaobfhldfamaa
