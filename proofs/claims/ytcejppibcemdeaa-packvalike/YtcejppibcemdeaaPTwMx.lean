/- Contracts of span's long and has over the seat's translation. -/
import Derived.Test.YtcejppibcemdeaaTwPx
import Derived.Test.YtcejppibcemdeaaPShelfB
import Derived.Test.YtcejppibcemdeaaPWvN
import Derived.Test.YtcejppibcemdeaaTwBl
namespace Go.Proofs.Ytcejppibcemdeaa
open Go.RowKit

set_option maxHeartbeats 400000 in
theorem long_low (l L : Nat) (HL : Hid (∀ W, Calls Try.prog 74 #[.int .u64 (l : Int)] W fun e w' => e = .returned (.int .i64 (L : Int)) ∧ w' = W)) : Ret 67 #[.agg #[.int .u64 0, .int .u64 (l : Int)]] (.int .i64 (L : Int)) := by
  intro W
  go_enter Try.func67, Try.ntmps67
  go_wp2_with (go_at_call 74; refine (HL.out _).mono ?_; rintro e w3 ⟨rfl, rfl⟩)
  go_ret
  exact ⟨rfl, by go_grown⟩
/-- An element's bits. -/
def hasE (x : Nat × Nat) (n : Nat) : Bool := if n < 64 then x.2.testBit n else x.1.testBit (n - 64)
/-- How many bits it has up to its leading one. -/
def lngE (x : Nat × Nat) : Nat := if x.1 = 0 then Lib.bitLen x.2 else 64 + Lib.bitLen x.1
set_option maxHeartbeats 400000 in
theorem long_high (h l L : Nat) (h0 : h ≠ 0) (hL : L ≤ 64) (HL : Hid (∀ W, Calls Try.prog 74 #[.int .u64 (h : Int)] W fun e w' => e = .returned (.int .i64 (L : Int)) ∧ w' = W)) : Ret 67 #[.agg #[.int .u64 (h : Int), .int .u64 (l : Int)]] (.int .i64 ((64 + L : Nat) : Int)) := by
  intro W
  have h0' : ¬ (h : Int) = 0 := by omega
  have hw : IntKind.i64.wrap (64 + (L : Int)) = 64 + (L : Int) := by rw [IntKind.wrap_i64]; omega
  go_enter Try.func67, Try.ntmps67
  go_wp2_with (go_at_call 74; refine (HL.out _).mono ?_; rintro e w3 ⟨rfl, rfl⟩)
  go_ret
  exact ⟨by simp, by go_grown⟩
theorem bitLen_zero : Lib.bitLen 0 = 0 := by decide
theorem bitLen_pow : ∀ k x : Nat, k ≤ 64 → x < 2 ^ k → Lib.bitLen x ≤ k
  | 0, x, _, h => by obtain rfl : x = 0 := by omega
                     rw [bitLen_zero]; exact Nat.le_refl _
  | k + 1, x, hk, h => by
    by_cases h0 : x = 0
    · subst h0; rw [bitLen_zero]; exact Nat.zero_le _
    · have h64 : 2 ^ (k + 1) ≤ 2 ^ 64 := Nat.pow_le_pow_right (by decide) hk
      rw [Lib.bitLen_half x h0 (by omega)]
      have := bitLen_pow k (x / 2) (by omega) (by rw [Nat.pow_succ] at h; omega)
      omega
theorem bitLen_le (n : Nat) (h : n < 2 ^ 64) : Lib.bitLen n ≤ 64 := bitLen_pow 64 n (Nat.le_refl _) h
/-- What is below 2^k has no bit at k or above; what is not 0 has its leading one. -/
theorem bitLen_lt : ∀ k x : Nat, k ≤ 64 → x < 2 ^ k → x < 2 ^ Lib.bitLen x
  | 0, x, _, h => by obtain rfl : x = 0 := by omega
                     rw [bitLen_zero]; decide
  | k + 1, x, hk, h => by
    by_cases h0 : x = 0
    · subst h0; rw [bitLen_zero]; decide
    · have h64 : 2 ^ (k + 1) ≤ 2 ^ 64 := Nat.pow_le_pow_right (by decide) hk
      rw [Lib.bitLen_half x h0 (by omega), Nat.add_comm, Nat.pow_succ]
      have := bitLen_lt k (x / 2) (by omega) (by rw [Nat.pow_succ] at h; omega)
      omega
theorem bitLen_lead : ∀ k x : Nat, k ≤ 64 → x < 2 ^ k → x ≠ 0 → 1 ≤ Lib.bitLen x ∧ x.testBit (Lib.bitLen x - 1) = true
  | 0, x, _, h, h0 => by omega
  | k + 1, x, hk, h, h0 => by
    have h64 : 2 ^ (k + 1) ≤ 2 ^ 64 := Nat.pow_le_pow_right (by decide) hk
    rw [Lib.bitLen_half x h0 (by omega)]
    by_cases h1 : x / 2 = 0
    · obtain rfl : x = 1 := by omega
      decide
    · have := bitLen_lead k (x / 2) (by omega) (by rw [Nat.pow_succ] at h; omega) h1
      refine ⟨by omega, ?_⟩
      rw [show 1 + Lib.bitLen (x / 2) - 1 = (Lib.bitLen (x / 2) - 1) + 1 by omega, Nat.testBit_succ]
      exact this.2
/-- The leading bit. -/
theorem lngE_lead (x : Nat × Nat) (h1 : x.1 < 2 ^ 64) (h2 : x.2 < 2 ^ 64) (h0 : x ≠ (0, 0)) : 1 ≤ lngE x ∧ lngE x ≤ 128 ∧ hasE x (lngE x - 1) = true := by
  obtain ⟨h, l⟩ := x
  unfold lngE hasE
  simp only at h1 h2 ⊢
  by_cases e : h = 0
  · subst e
    have hl : l ≠ 0 := fun e => h0 (by rw [e])
    have a := bitLen_lead 64 l (Nat.le_refl _) h2 hl
    have b := bitLen_le l h2
    rw [if_pos rfl, if_pos (by omega)]
    exact ⟨a.1, by omega, a.2⟩
  · have a := bitLen_lead 64 h (Nat.le_refl _) h1 e
    have b := bitLen_le h h1
    rw [if_neg e, if_neg (by omega), show 64 + Lib.bitLen h - 1 - 64 = Lib.bitLen h - 1 by omega]
    exact ⟨by omega, by omega, a.2⟩
theorem long_any (x : Nat × Nat) (h1 : x.1 < 2 ^ 64) (h2 : x.2 < 2 ^ 64) : Ret 67 #[.agg #[.int .u64 (x.1 : Int), .int .u64 (x.2 : Int)]] (.int .i64 (lngE x : Int)) := by
  obtain ⟨h, l⟩ := x
  unfold lngE
  simp only at h1 h2 ⊢
  by_cases h0 : h = 0
  · subst h0
    rw [if_pos rfl]
    exact long_low l _ (fun W => by have := len64_any (l : Int) W (by omega) (by omega); rwa [Int.toNat_natCast] at this)
  · rw [if_neg h0]
    exact long_high h l _ h0 (bitLen_le h h1) (fun W => by have := len64_any (h : Int) W (by omega) (by omega); rwa [Int.toNat_natCast] at this)
set_option maxHeartbeats 400000 in
theorem has_low (h l n : Nat) (b : Bool) (hn : n < 64) (fb : bits .and .u64 ((l : Int) / 2 ^ n) 1 = if b = true then 1 else 0) : Ret 68 #[.agg #[.int .u64 (h : Int), .int .u64 (l : Int)], .int .i64 (n : Int)] (.bool b) := by
  intro W
  have hs : (n : Int) < 64 := by omega
  cases b
  · simp only [Bool.false_eq_true, if_false] at fb
    go_enter Try.func68, Try.ntmps68
    go_wp2
    go_ret
    exact ⟨by simp, by go_grown⟩
  · simp only [if_true] at fb
    go_enter Try.func68, Try.ntmps68
    go_wp2
    go_ret
    exact ⟨by simp, by go_grown⟩
set_option maxHeartbeats 400000 in
theorem has_high (h l n : Nat) (b : Bool) (hn : 64 ≤ n) (hn2 : n < 128) (fb : bits .and .u64 ((h : Int) / 2 ^ (n - 64)) 1 = if b = true then 1 else 0) : Ret 68 #[.agg #[.int .u64 (h : Int), .int .u64 (l : Int)], .int .i64 (n : Int)] (.bool b) := by
  intro W
  cases b
  · simp only [Bool.false_eq_true, if_false] at fb
    go_enter Try.func68, Try.ntmps68
    go_wp2
    go_ret
    exact ⟨by simp, by go_grown⟩
  · simp only [if_true] at fb
    go_enter Try.func68, Try.ntmps68
    go_wp2
    go_ret
    exact ⟨by simp, by go_grown⟩
theorem shas_any (x : Nat × Nat) (n : Nat) (h1 : x.1 < 2 ^ 64) (h2 : x.2 < 2 ^ 64) (hn : n < 128) : Ret 68 #[.agg #[.int .u64 (x.1 : Int), .int .u64 (x.2 : Int)], .int .i64 (n : Int)] (.bool (hasE x n)) := by
  unfold hasE
  by_cases h : n < 64
  · rw [if_pos h]
    refine has_low x.1 x.2 n _ h ?_
    rw [bit_nat x.2 n h2, Nat.testBit_eq_decide_div_mod_eq]
    rcases Nat.mod_two_eq_zero_or_one (x.2 / 2 ^ n) with e | e <;> simp [e]
  · rw [if_neg h]
    refine has_high x.1 x.2 n _ (by omega) hn ?_
    rw [bit_nat x.1 (n - 64) h1, Nat.testBit_eq_decide_div_mod_eq]
    rcases Nat.mod_two_eq_zero_or_one (x.1 / 2 ^ (n - 64)) with e | e <;> simp [e]
end Go.Proofs.Ytcejppibcemdeaa

/- Contracts of tower.Mul, Square, MulX and X for any level and elements, over the seat's translation. -/
namespace Go.Proofs.Ytcejppibcemdeaa
open Go.RowKit
open Tw (px pm)

/-- The product in a level: nothing, if one is not of it. -/
def mulv (l : Int) (a b : Nat × Nat) : Nat × Nat := if ofB l a.1 a.2 = true ∧ ofB l b.1 b.2 = true then pm a b else (0, 0)
/-- The generator of a level. -/
def xv (l : Int) : Nat × Nat := if levelB l = true then (if l = 0 then (0, 1) else Tw.gp (l.toNat - 1)) else (0, 0)

theorem below2 {B p : Nat} {W w : World} (h : Below B W w) (hp : B ≤ p) (u v : Value) : Below B W ((w.setCell ⟨p, 0, none⟩ u).setCell ⟨p, 1, none⟩ v) := (h.setCell hp _).setCell hp _
set_option maxHeartbeats 400000 in
theorem mul_no1 (l : Int) (ah al bh bl : Nat) (HO : Ret 33 #[.int .i64 l, .agg #[.int .u64 (ah : Int), .int .u64 (al : Int)]] (.bool false)) :
    Ret 57 #[.int .i64 l, .agg #[.int .u64 (ah : Int), .int .u64 (al : Int)], .agg #[.int .u64 (bh : Int), .int .u64 (bl : Int)]] (.agg #[.int .u64 0, .int .u64 0]) := by
  intro W
  go_enter Try.func57, Try.ntmps57
  go_wp2_with fail
  refine (HO.go _).mono ?_
  rintro e w1 ⟨rfl, hb1⟩
  have R : Ew w1 (W.heap.size + 1 + 1) 0 0 := Ew.below ⟨⟨by simp [go_sem], by simp [go_sem]⟩, by simp [go_sem], by simp [go_sem]⟩ hb1
  have D : Below W.heap.size W w1 := ((((Below.refl _ _).alloc (Nat.le_refl _) _).alloc (by simp <;> omega) _).alloc (by simp <;> omega) _).trans (hb1.mono (by simp <;> omega))
  obtain ⟨⟨r1, r0⟩, f1, f0⟩ := R
  clear hb1
  go_wp2
  refine bodyPost_ret (v := .agg #[.int .u64 0, .int .u64 0]) (by simp [results, Try.results57, go_sem, *]) rfl ⟨rfl, ?_⟩
  exact below2 D (by omega) _ _
set_option maxHeartbeats 400000 in
theorem mul_no2 (l : Int) (ah al bh bl : Nat) (HO : Ret 33 #[.int .i64 l, .agg #[.int .u64 (ah : Int), .int .u64 (al : Int)]] (.bool true)) (HO2 : Ret 33 #[.int .i64 l, .agg #[.int .u64 (bh : Int), .int .u64 (bl : Int)]] (.bool false)) :
    Ret 57 #[.int .i64 l, .agg #[.int .u64 (ah : Int), .int .u64 (al : Int)], .agg #[.int .u64 (bh : Int), .int .u64 (bl : Int)]] (.agg #[.int .u64 0, .int .u64 0]) := by
  intro W
  go_enter Try.func57, Try.ntmps57
  go_wp2_with fail
  refine (HO.go _).mono ?_
  rintro e w1 ⟨rfl, hb1⟩
  have B1 : Box3 W.heap.size ah al bh bl w1 := (box3_three W ah al bh bl).below hb1
  have D1 : Below W.heap.size W w1 := ((((Below.refl _ _).alloc (Nat.le_refl _) _).alloc (by simp <;> omega) _).alloc (by simp <;> omega) _).trans (hb1.mono (by simp <;> omega))
  obtain ⟨k1, k2, k3, k4, k5, k6, k7, k8, k9⟩ := B1.facts
  go_wp2_with fail
  refine (HO2.go _).mono ?_
  rintro e w2 ⟨rfl, hb2⟩
  have B2 := B1.below hb2
  have D2 := D1.trans (hb2.mono D1.size)
  clear k1 k2 k3 k4 k5 k6 k7 k8 k9 B1 D1 hb1 hb2 HO HO2
  obtain ⟨k1, k2, k3, k4, k5, k6, k7, k8, k9⟩ := B2.facts
  go_wp2
  refine bodyPost_ret (v := .agg #[.int .u64 0, .int .u64 0]) (by simp [results, Try.results57, go_sem, *]) rfl ⟨rfl, ?_⟩
  exact below2 D2 (by omega) _ _
theorem mulv_no1 {l : Int} {a b : Nat × Nat} (h : ofB l a.1 a.2 = false) : mulv l a b = (0, 0) := by
  unfold mulv; rw [if_neg (by rintro ⟨h1, _⟩; rw [h] at h1; cases h1)]
theorem mulv_no2 {l : Int} {a b : Nat × Nat} (h : ofB l b.1 b.2 = false) : mulv l a b = (0, 0) := by
  unfold mulv; rw [if_neg (by rintro ⟨_, h1⟩; rw [h] at h1; cases h1)]
theorem mulv_of {l : Int} {a b : Nat × Nat} (h1 : ofB l a.1 a.2 = true) (h2 : ofB l b.1 b.2 = true) : mulv l a b = pm a b := by
  unfold mulv; rw [if_pos ⟨h1, h2⟩]
/-- Mul, whatever the level and the elements. -/
theorem mul_any (l : Int) (a b : Nat × Nat) (h1 : a.1 < 2 ^ 64) (h2 : a.2 < 2 ^ 64) (h3 : b.1 < 2 ^ 64) (h4 : b.2 < 2 ^ 64) :
    Ret 57 #[.int .i64 l, .agg #[.int .u64 (a.1 : Int), .int .u64 (a.2 : Int)], .agg #[.int .u64 (b.1 : Int), .int .u64 (b.2 : Int)]] (.agg #[.int .u64 ((mulv l a b).1 : Int), .int .u64 ((mulv l a b).2 : Int)]) := by
  have HA := of_ret l a.1 a.2 h2
  have HB := of_ret l b.1 b.2 h4
  cases ha : ofB l a.1 a.2
  · rw [ha] at HA; rw [mulv_no1 ha]; exact mul_no1 l _ _ _ _ HA
  · rw [ha] at HA
    cases hb : ofB l b.1 b.2
    · rw [hb] at HB; rw [mulv_no2 hb]; exact mul_no2 l _ _ _ _ HA HB
    · rw [mulv_of ha hb]; exact fun W => mul_of l a.1 a.2 b.1 b.2 ha hb h1 h2 h3 h4 W
theorem of_x (l : Int) (h : levelB l = true) : ofB l (xv l).1 (xv l).2 = true := by
  rcases level_cases l h with rfl | rfl | rfl | rfl | rfl | rfl | rfl | rfl <;> decide
theorem levelB_of {l h k : Int} (e : ofB l h k = true) : levelB l = true := by
  unfold ofB at e
  cases hl : levelB l
  · rw [hl] at e; cases e
  · rfl
theorem gbit_xv (l : Int) (h : levelB l = true) (h7 : ¬ l = 7) : xv l = (0, gbit l) := by
  rcases level_cases l h with rfl | rfl | rfl | rfl | rfl | rfl | rfl | rfl
  all_goals first | (exact absurd rfl h7) | decide
end Go.Proofs.Ytcejppibcemdeaa
