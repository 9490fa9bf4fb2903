/- The bits of parts that are joined; contracts of weave.Gather's errors and of weave.Bits over the seat's translation. -/
import Derived.Test.YtflkchhdgiojgaaWvF
import Derived.Test.YtflkchhdgiojgaaTwBy
namespace Go.Proofs.Ytflkchhdgiojgaa
open Go.RowKit

theorem jn_has (k : Nat) (h1 : 1 ≤ k) (hk : k < 8) (x y : Nat × Nat) (oy : ofB ((k - 1 : Nat) : Int) (y.1 : Int) (y.2 : Int) = true) (n : Nat) (hn : n < 2 ^ k) :
    hasB (jn k x y).1 (jn k x y).2 n = if n < 2 ^ (k - 1) then hasB y.1 y.2 n else hasB x.1 x.2 (n - 2 ^ (k - 1)) := by
  unfold jn
  by_cases h7 : k = 7
  · subst h7
    rw [if_pos rfl]
    have e : (2 : Nat) ^ (7 - 1) = 64 := by decide
    have e2 : (2 : Nat) ^ 7 = 128 := by decide
    rw [e]; rw [e2] at hn
    unfold hasB
    by_cases h : n < 64
    · rw [if_pos h, if_pos h, if_pos h]
    · rw [if_neg h, if_neg h, if_pos (by omega)]
  · rw [if_neg h7]
    have h6 : 2 ^ k ≤ 2 ^ 6 := Nat.pow_le_pow_right (by decide) (by omega)
    have e : (2 : Nat) ^ 6 = 64 := by decide
    have hf : 0 < 2 ^ (k - 1) := Nat.two_pow_pos _
    rw [ofB_iff _ _ _ (by omega)] at oy
    have oy := oy.resolve_left (by omega)
    unfold hasB
    rw [if_pos (by omega)]
    show (2 ^ 2 ^ (k - 1) * x.2 + y.2).testBit n = _
    rw [Nat.testBit_two_pow_mul_add _ oy.2]
    by_cases h : n < 2 ^ (k - 1)
    · rw [if_pos h, if_pos h, if_pos (by omega)]
    · rw [if_neg h, if_neg h, if_pos (by omega)]
theorem getD_take {α : Type} (l : List α) (n i : Nat) (z : α) (h : i < n) : (l.take n).getD i z = l.getD i z := by simp [List.getD, h]
theorem getD_drop {α : Type} (l : List α) (n i : Nat) (z : α) : (l.drop n).getD i z = l.getD (n + i) z := by simp [List.getD]
/-- The bits of parts that are joined: those of the parts, one behind the other. -/
theorem jnd_has : ∀ (d k : Nat) (es : List (Nat × Nat)), d ≤ k → k < 8 → es.length = 2 ^ d → (∀ e ∈ es, ofB ((k - d : Nat) : Int) (e.1 : Int) (e.2 : Int) = true) → ∀ n, n < 2 ^ k →
    hasB (jnd d k es).1 (jnd d k es).2 n = hasB (es.getD (n / 2 ^ (k - d)) (0, 0)).1 (es.getD (n / 2 ^ (k - d)) (0, 0)).2 (n % 2 ^ (k - d)) := by
  intro d
  induction d with
  | zero =>
    intro k es _ _ hl _ n hn
    rw [Nat.sub_zero, Nat.div_eq_of_lt hn, Nat.mod_eq_of_lt hn]
    rfl
  | succ d ih =>
    intro k es hd hk hl ho n hn
    have hp : 2 ^ (d + 1) = 2 ^ d + 2 ^ d := by rw [Nat.pow_succ]; omega
    have hs : k - 1 - d = k - (d + 1) := by omega
    have ll : (es.take (2 ^ d)).length = 2 ^ d := by rw [List.length_take]; omega
    have lh : (es.drop (2 ^ d)).length = 2 ^ d := by rw [List.length_drop]; omega
    have oh : ∀ e ∈ es.drop (2 ^ d), ofB ((k - 1 - d : Nat) : Int) (e.1 : Int) (e.2 : Int) = true := fun e he => by rw [hs]; exact ho e (List.mem_of_mem_drop he)
    have ol : ∀ e ∈ es.take (2 ^ d), ofB ((k - 1 - d : Nat) : Int) (e.1 : Int) (e.2 : Int) = true := fun e he => by rw [hs]; exact ho e (List.mem_of_mem_take he)
    have hP : 2 ^ (k - 1) = 2 ^ d * 2 ^ (k - (d + 1)) := by rw [← Nat.pow_add]; congr 1; omega
    have hQ : 0 < 2 ^ (k - (d + 1)) := Nat.two_pow_pos _
    have hkk : 2 ^ k = 2 ^ (k - 1) + 2 ^ (k - 1) := by
      obtain ⟨j, rfl⟩ : ∃ j, k = j + 1 := ⟨k - 1, by omega⟩
      rw [Nat.add_sub_cancel, Nat.pow_succ]; omega
    show hasB (jn k _ _).1 (jn k _ _).2 n = _
    rw [jn_has k (by omega) hk _ _ (jnd_of d (k - 1) _ (by omega) (by omega) ll ol) n hn]
    by_cases h : n < 2 ^ (k - 1)
    · rw [if_pos h, ih (k - 1) _ (by omega) (by omega) ll ol n h, hs, getD_take _ _ _ _ (by rw [Nat.div_lt_iff_lt_mul hQ, ← hP]; exact h)]
    · rw [if_neg h, ih (k - 1) _ (by omega) (by omega) lh oh (n - 2 ^ (k - 1)) (by omega), hs, getD_drop]
      have e1 : 2 ^ d + (n - 2 ^ (k - 1)) / 2 ^ (k - (d + 1)) = n / 2 ^ (k - (d + 1)) := by
        conv => rhs; rw [show n = (n - 2 ^ (k - 1)) + 2 ^ d * 2 ^ (k - (d + 1)) by omega]
        rw [Nat.add_mul_div_right _ _ hQ]; omega
      have e2 : (n - 2 ^ (k - 1)) % 2 ^ (k - (d + 1)) = n % 2 ^ (k - (d + 1)) := by
        conv => rhs; rw [show n = (n - 2 ^ (k - 1)) + 2 ^ d * 2 ^ (k - (d + 1)) by omega]
        rw [Nat.add_mul_mod_self_right]
      rw [e1, e2]
/-- Bits as elements. -/
def bE (bs : List Bool) : List (Nat × Nat) := bs.map fun b => if b then (0, 1) else (0, 0)
theorem bE_len (bs : List Bool) : (bE bs).length = bs.length := by simp [bE]
theorem bE_at (bs : List Bool) (i : Nat) : (bE bs).getD i (0, 0) = if bs.getD i false then (0, 1) else (0, 0) := by
  unfold bE
  by_cases h : i < bs.length
  · simp [List.getD, h]
  · simp [List.getD, h]
theorem bE_of (bs : List Bool) : ∀ e ∈ bE bs, ofB ((0 : Nat) : Int) (e.1 : Int) (e.2 : Int) = true := by
  intro e he
  unfold bE at he
  obtain ⟨b, _, rfl⟩ := List.mem_map.1 he
  cases b <;> decide
theorem bE_lt (bs : List Bool) : ltE (bE bs) := by
  intro e he
  unfold bE at he
  obtain ⟨b, _, rfl⟩ := List.mem_map.1 he
  cases b <;> decide
theorem isUp_no (f t : Int) (h : ¬ (0 ≤ f ∧ f ≤ t ∧ t ≤ 7)) : Ret 35 #[.int .i64 f, .int .i64 t] (.bool false) := by
  intro W
  by_cases h0 : 0 ≤ f
  · by_cases h1 : f ≤ t
    · have h2 : ¬ t ≤ 7 := fun h2 => h ⟨h0, h1, h2⟩
      clear h
      go_enter Try.func35, Try.ntmps35
      go_wp2
      refine bodyPost_ret (v := .bool false) (by simp [results, Try.results35, go_sem, *]) rfl ⟨rfl, ?_⟩
      first | exact Below.refl _ _ | go_grown
    · clear h
      go_enter Try.func35, Try.ntmps35
      go_wp2
      refine bodyPost_ret (v := .bool false) (by simp [results, Try.results35, go_sem, *]) rfl ⟨rfl, ?_⟩
      first | exact Below.refl _ _ | go_grown
  · clear h
    go_enter Try.func35, Try.ntmps35
    go_wp2
    refine bodyPost_ret (v := .bool false) (by simp [results, Try.results35, go_sem, *]) rfl ⟨rfl, ?_⟩
    first | exact Below.refl _ _ | go_grown
set_option maxHeartbeats 400000 in
theorem gather_arg (f t : Int) (h : ¬ (0 ≤ f ∧ f ≤ t ∧ t ≤ 7)) (v : Value) : Ret 18 #[.int .i64 f, .int .i64 t, v] (.tuple #[.slice none 0 0, .int .i64 1]) := by
  intro W
  have HU := isUp_no f t h
  clear h
  go_enter Try.func18, Try.ntmps18
  go_wp2_with fail
  refine (HU.go _).mono ?_
  rintro e w1 ⟨rfl, hb1⟩
  go_wp2
  refine bodyPost_ret (v := .tuple #[.slice none 0 0, .int .i64 1]) (by simp [results, Try.results18, go_sem]) rfl ⟨rfl, ?_⟩
  exact hb1
set_option maxHeartbeats 400000 in
theorem gather_size (f t d each : Nat) (hd : f + d = t) (ht : t < 8) (he : each = 2 ^ d) (a : Option Addr) (n cap : Nat) (hn : ¬ n % each = 0) : Ret 18 #[.int .i64 (f : Int), .int .i64 (t : Int), .slice a n cap] (.tuple #[.slice none 0 0, .int .i64 6]) := by
  intro W
  have HU : Hid (Ret 35 #[.int .i64 (f : Int), .int .i64 (t : Int)] (.bool true)) := isUp_ok _ _ (by omega) (by omega) (by omega)
  have hep : 0 < each := by rw [he]; exact Nat.two_pow_pos d
  have h1 : IntKind.i64.wrap ((t : Int) - f) = (d : Int) := by rw [IntKind.wrap_i64]; omega
  have h2 : IntKind.i64.wrap (2 ^ d) = (each : Int) := by
    have h1 : 2 ^ d < 2 ^ 8 := Nat.pow_lt_pow_right (by decide) (by omega)
    rw [IntKind.wrap_i64, show (2 : Int) ^ d = ((2 ^ d : Nat) : Int) by simp, he]
    generalize 2 ^ d = p at *
    omega
  obtain ⟨m, hm⟩ : ∃ m : Nat, n % each = m := ⟨_, rfl⟩
  have h3 : (n : Int).tmod (each : Int) = (m : Int) := by rw [Int.tmod_eq_emod_of_nonneg (by omega), ← hm]; simp
  have h4 : ¬ (m : Int) = 0 := by omega
  have h5 : ¬ (each : Int) = 0 := by omega
  have h6 : (0 : Int) ≤ (d : Int) := by omega
  have h7 : (d : Int) < 64 := by omega
  clear he hd hn hm
  go_enter Try.func18, Try.ntmps18
  go_wp2_with fail
  refine (HU.out.go _).mono ?_
  rintro e w1 ⟨rfl, hb1⟩
  have HB : Hid (Below W.heap.size W w1) := hb1
  clear hb1
  go_wp2
  refine bodyPost_ret (v := .tuple #[.slice none 0 0, .int .i64 6]) (by simp [results, Try.results18, go_sem]) rfl ⟨rfl, ?_⟩
  exact HB.out
end Go.Proofs.Ytflkchhdgiojgaa
