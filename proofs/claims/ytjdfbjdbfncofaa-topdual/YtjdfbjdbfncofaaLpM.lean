/- The contract of linpoly.Plain where there is such a space, over the seat's translation. -/
import Derived.Test.YtjdfbjdbfncofaaLpL
import Derived.Test.YtjdfbjdbfncofaaTwX
import Derived.Deep.OwnRows
namespace Go.Proofs.Ytjdfbjdbfncofaa
open Go.RowKit

/-- The elements of one bit each. -/
def bitsE (n : Nat) : List (Nat × Nat) := (List.range n).map fun i => (0, 2 ^ i)
theorem bitsE_len (n : Nat) : (bitsE n).length = n := by simp [bitsE]
theorem bitsE_at (n i : Nat) (h : i < n) : (bitsE n).getD i (0, 0) = (0, 2 ^ i) := by simp [bitsE, List.getD, h]
theorem bitsE_lt (n : Nat) (h : n ≤ 10) : ltE (bitsE n) := by
  intro e he
  obtain ⟨i, hi, rfl⟩ := List.mem_map.1 he
  have := List.mem_range.1 hi
  exact ⟨Nat.two_pow_pos 64, Nat.pow_lt_pow_right (by decide) (by omega)⟩
/-- The cells of such elements. -/
def bcell (p : Nat) : Value := if p % 2 = 0 then .int .u64 0 else .int .u64 ((2 ^ (p / 2) : Nat) : Int)
theorem row_bits {w : World} {g n : Nat} {f : Nat → Value} (h : w.rowIs g 24 (n * 2) f) (hf : ∀ p, p < n * 2 → f p = bcell p) : ERow w (some ⟨g, 0, none⟩) (bitsE n) := ⟨fun i hi => by
  rw [bitsE_len] at hi
  rw [bitsE_at n i hi]
  refine ⟨g, 0, rfl, h.lt, ?_, ?_⟩
  · rw [Nat.zero_add, h.cell (by omega), hf _ (by omega)]
    unfold bcell
    rw [if_pos (by omega)]; rfl
  · rw [Nat.zero_add, h.cell (by omega), hf _ (by omega)]
    unfold bcell
    rw [if_neg (by omega), show (i * 2 + 1) / 2 = i by omega]⟩
theorem own_rowIs {w : World} {base : Nat} {T : TypeId} {g n c : Nat} {xs : List Value} (h : w.ownsRow base T 2 (.slice (some ⟨g, 0, none⟩) n n) n xs) (hc : c = n * 2) : ∃ f, w.rowIs g T c f := by
  subst hc
  rcases h.2 with ⟨h1, _⟩ | ⟨g', cap, cur, e, _, hg, _, _, hs, _⟩
  · injection h1 with h2; cases h2
  · injection e with e1 e2 e3
    obtain rfl : g = g' := by injection e1 with e4; injection e4
    subst e3
    exact ⟨fun i => cur.getD i undef, cur, hg, hs, fun i hi => by
      show cur[i]? = some (cur.getD i undef)
      rw [Array.getD_eq_getD_getElem?, Array.getElem?_eq_getElem (by omega)]; rfl⟩
set_option maxHeartbeats 400000 in
theorem lin_level (l : Int) (h : 0 ≤ l ∧ l ≤ 7) : Ret 47 #[.int .i64 l] (.bool true) := by
  intro W
  obtain ⟨h0, h7⟩ := h
  go_enter Try.func47, Try.ntmps47
  go_wp2
  go_ret
  exact ⟨by simp, by first | exact Below.refl _ _ | go_grown⟩
theorem wrap_two (n : Nat) (hn : n < 64) : IntKind.u64.wrap (2 ^ n) = ((2 ^ n : Nat) : Int) := by
  have h1 : 2 ^ n < 2 ^ 64 := Nat.pow_lt_pow_right (by decide) hn
  rw [IntKind.wrap_u64, show (2 : Int) ^ n = ((2 ^ n : Nat) : Int) by simp]
  generalize 2 ^ n = p at *
  omega
set_option maxHeartbeats 400000 in
theorem lbit (n : Nat) (hn : n < 64) : Ret 21 #[.int .i64 (n : Int)] (.agg #[.int .u64 0, .int .u64 ((2 ^ n : Nat) : Int)]) := by
  intro W
  go_enter Try.func21, Try.ntmps21
  go_wp2
  refine bodyPost_ret (v := .agg #[.int .u64 0, .int .u64 (IntKind.u64.wrap (2 ^ n))]) (by simp [results, Try.results21, go_sem]) rfl ⟨by rw [wrap_two n hn], ?_⟩
  go_grown
set_option maxHeartbeats 400000 in
theorem inv_none (l : Int) (ah al : Nat) (HO : Ret 20 #[.int .i64 l, .agg #[.int .u64 (ah : Int), .int .u64 (al : Int)]] (.bool false)) :
    Ret 63 #[.int .i64 l, .agg #[.int .u64 (ah : Int), .int .u64 (al : Int)]] (.agg #[.int .u64 ((0 : Nat) : Int), .int .u64 ((0 : Nat) : Int)]) := by
  intro W
  go_enter Try.func63, Try.ntmps63
  go_wp2_with fail
  refine (HO.go _).mono ?_
  rintro e w1 ⟨rfl, hb1⟩
  have R : Ew w1 (W.heap.size + 1) 0 0 := Ew.below ⟨⟨by simp [go_sem], by simp [go_sem]⟩, by simp [go_sem], by simp [go_sem]⟩ hb1
  have D : Below W.heap.size W w1 := (((Below.refl _ _).alloc (Nat.le_refl _) _).alloc (by simp) _).trans (hb1.mono (by simp <;> omega))
  obtain ⟨⟨r1, r0⟩, f1, f0⟩ := R
  clear hb1
  go_wp2
  refine bodyPost_ret (v := .agg #[.int .u64 0, .int .u64 0]) (by simp [results, Try.results63, go_sem, *]) rfl ⟨rfl, ?_⟩
  exact below2 D (by omega) _ _
/-- The inverse that Inv gives. -/
def ivv (l : Int) (y : Nat × Nat) : Nat × Nat := if ofB l y.1 y.2 then (Tw.ivh y.1 y.2, Tw.ivl y.1 y.2) else (0, 0)
theorem inv_lin (l : Int) (y : Nat × Nat) (h1 : y.1 < 2 ^ 64) (h2 : y.2 < 2 ^ 64) : Ret 63 #[.int .i64 l, .agg #[.int .u64 (y.1 : Int), .int .u64 (y.2 : Int)]] (.agg #[.int .u64 ((ivv l y).1 : Int), .int .u64 ((ivv l y).2 : Int)]) := by
  have HA := of_ret l y.1 y.2 h2
  unfold ivv
  cases ha : ofB l y.1 y.2
  · rw [ha] at HA; rw [if_neg (by decide)]; exact inv_none l _ _ HA
  · rw [if_pos rfl]; exact inv_of l y.1 y.2 ha h1 h2
end Go.Proofs.Ytjdfbjdbfncofaa
