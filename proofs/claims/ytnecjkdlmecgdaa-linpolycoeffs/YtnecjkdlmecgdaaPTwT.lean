/- Powers, over the seat's translation. -/
import Derived.Test.YtnecjkdlmecgdaaTwBl
import Derived.Test.YtnecjkdlmecgdaaTwM
import Derived.Test.YtnecjkdlmecgdaaPTwF
namespace Go.Proofs.Ytnecjkdlmecgdaa
open Go.RowKit

theorem bit_nat (n j : Nat) (hn : n < 2 ^ 64) : bits .and .u64 ((n : Int) / 2 ^ j) 1 = ((n / 2 ^ j % 2 : Nat) : Int) := by
  have h1 : n / 2 ^ j < 2 ^ 64 := Nat.lt_of_le_of_lt (Nat.div_le_self _ _) hn
  have h2 : (n : Int) / 2 ^ j = ((n / 2 ^ j : Nat) : Int) := by rw [Int.natCast_ediv, Int.natCast_pow]; rfl
  have := u64_and_nat (n / 2 ^ j) 1 h1 (by decide)
  rw [Nat.and_one_is_mod] at this
  rw [h2]; exact this

theorem of_pp {k xh xl : Nat} (hk : k < 8) (X : ofB (k : Int) (xh : Int) (xl : Int) = true) : ∀ n, ofB (k : Int) (Tw.pph xh xl n : Nat) (Tw.ppl xh xl n : Nat) = true
  | 0 => by rw [(Tw.pp_zero xh xl).1, (Tw.pp_zero xh xl).2]; exact of_one k hk
  | n + 1 => by rw [← (Tw.pp_succ xh xl n).1, ← (Tw.pp_succ xh xl n).2]; exact of_pm hk (of_pp hk X n) X
end Go.Proofs.Ytnecjkdlmecgdaa

/- Contracts of span's long and has over the seat's translation. -/
namespace Go.Proofs.Ytnecjkdlmecgdaa
open Go.RowKit

set_option maxHeartbeats 400000 in
theorem long_low (l L : Nat) (HL : Hid (∀ W, Calls Try.prog 88 #[.int .u64 (l : Int)] W fun e w' => e = .returned (.int .i64 (L : Int)) ∧ w' = W)) : Ret 75 #[.agg #[.int .u64 0, .int .u64 (l : Int)]] (.int .i64 (L : Int)) := by
  intro W
  go_enter Try.func75, Try.ntmps75
  go_wp2_with (go_at_call 88; refine (HL.out _).mono ?_; rintro e w3 ⟨rfl, rfl⟩)
  go_ret
  exact ⟨rfl, by go_grown⟩
/-- An element's bits. -/
def hasE (x : Nat × Nat) (n : Nat) : Bool := if n < 64 then x.2.testBit n else x.1.testBit (n - 64)
/-- How many bits it has up to its leading one. -/
def lngE (x : Nat × Nat) : Nat := if x.1 = 0 then Lib.bitLen x.2 else 64 + Lib.bitLen x.1
set_option maxHeartbeats 400000 in
theorem long_high (h l L : Nat) (h0 : h ≠ 0) (hL : L ≤ 64) (HL : Hid (∀ W, Calls Try.prog 88 #[.int .u64 (h : Int)] W fun e w' => e = .returned (.int .i64 (L : Int)) ∧ w' = W)) : Ret 75 #[.agg #[.int .u64 (h : Int), .int .u64 (l : Int)]] (.int .i64 ((64 + L : Nat) : Int)) := by
  intro W
  have h0' : ¬ (h : Int) = 0 := by omega
  have hw : IntKind.i64.wrap (64 + (L : Int)) = 64 + (L : Int) := by rw [IntKind.wrap_i64]; omega
  go_enter Try.func75, Try.ntmps75
  go_wp2_with (go_at_call 88; refine (HL.out _).mono ?_; rintro e w3 ⟨rfl, rfl⟩)
  go_ret
  exact ⟨by simp, by go_grown⟩
theorem bitLen_zero : Lib.bitLen 0 = 0 := by decide
theorem bitLen_pow : ∀ k x : Nat, k ≤ 64 → x < 2 ^ k → Lib.bitLen x ≤ k
  | 0, x, _, h => by obtain rfl : x = 0 := by omega
                     rw [bitLen_zero]; exact Nat.le_refl _
  | k + 1, x, hk, h => by
    by_cases h0 : x = 0
    · subst h0; rw [bitLen_zero]; exact Nat.zero_le _
    · have h64 : 2 ^ (k + 1) ≤ 2 ^ 64 := Nat.pow_le_pow_right (by decide) hk
      rw [Lib.bitLen_half x h0 (by omega)]
      have := bitLen_pow k (x / 2) (by omega) (by rw [Nat.pow_succ] at h; omega)
      omega
theorem bitLen_le (n : Nat) (h : n < 2 ^ 64) : Lib.bitLen n ≤ 64 := bitLen_pow 64 n (Nat.le_refl _) h
/-- What is below 2^k has no bit at k or above; what is not 0 has its leading one. -/
theorem bitLen_lt : ∀ k x : Nat, k ≤ 64 → x < 2 ^ k → x < 2 ^ Lib.bitLen x
  | 0, x, _, h => by obtain rfl : x = 0 := by omega
                     rw [bitLen_zero]; decide
  | k + 1, x, hk, h => by
    by_cases h0 : x = 0
    · subst h0; rw [bitLen_zero]; decide
    · have h64 : 2 ^ (k + 1) ≤ 2 ^ 64 := Nat.pow_le_pow_right (by decide) hk
      rw [Lib.bitLen_half x h0 (by omega), Nat.add_comm, Nat.pow_succ]
      have := bitLen_lt k (x / 2) (by omega) (by rw [Nat.pow_succ] at h; omega)
      omega
theorem bitLen_lead : ∀ k x : Nat, k ≤ 64 → x < 2 ^ k → x ≠ 0 → 1 ≤ Lib.bitLen x ∧ x.testBit (Lib.bitLen x - 1) = true
  | 0, x, _, h, h0 => by omega
  | k + 1, x, hk, h, h0 => by
    have h64 : 2 ^ (k + 1) ≤ 2 ^ 64 := Nat.pow_le_pow_right (by decide) hk
    rw [Lib.bitLen_half x h0 (by omega)]
    by_cases h1 : x / 2 = 0
    · obtain rfl : x = 1 := by omega
      decide
    · have := bitLen_lead k (x / 2) (by omega) (by rw [Nat.pow_succ] at h; omega) h1
      refine ⟨by omega, ?_⟩
      rw [show 1 + Lib.bitLen (x / 2) - 1 = (Lib.bitLen (x / 2) - 1) + 1 by omega, Nat.testBit_succ]
      exact this.2
/-- The leading bit. -/
theorem lngE_lead (x : Nat × Nat) (h1 : x.1 < 2 ^ 64) (h2 : x.2 < 2 ^ 64) (h0 : x ≠ (0, 0)) : 1 ≤ lngE x ∧ lngE x ≤ 128 ∧ hasE x (lngE x - 1) = true := by
  obtain ⟨h, l⟩ := x
  unfold lngE hasE
  simp only at h1 h2 ⊢
  by_cases e : h = 0
  · subst e
    have hl : l ≠ 0 := fun e => h0 (by rw [e])
    have a := bitLen_lead 64 l (Nat.le_refl _) h2 hl
    have b := bitLen_le l h2
    rw [if_pos rfl, if_pos (by omega)]
    exact ⟨a.1, by omega, a.2⟩
  · have a := bitLen_lead 64 h (Nat.le_refl _) h1 e
    have b := bitLen_le h h1
    rw [if_neg e, if_neg (by omega), show 64 + Lib.bitLen h - 1 - 64 = Lib.bitLen h - 1 by omega]
    exact ⟨by omega, by omega, a.2⟩
theorem long_any (x : Nat × Nat) (h1 : x.1 < 2 ^ 64) (h2 : x.2 < 2 ^ 64) : Ret 75 #[.agg #[.int .u64 (x.1 : Int), .int .u64 (x.2 : Int)]] (.int .i64 (lngE x : Int)) := by
  obtain ⟨h, l⟩ := x
  unfold lngE
  simp only at h1 h2 ⊢
  by_cases h0 : h = 0
  · subst h0
    rw [if_pos rfl]
    exact long_low l _ (fun W => by have := len64_any (l : Int) W (by omega) (by omega); rwa [Int.toNat_natCast] at this)
  · rw [if_neg h0]
    exact long_high h l _ h0 (bitLen_le h h1) (fun W => by have := len64_any (h : Int) W (by omega) (by omega); rwa [Int.toNat_natCast] at this)
set_option maxHeartbeats 400000 in
theorem has_low (h l n : Nat) (b : Bool) (hn : n < 64) (fb : bits .and .u64 ((l : Int) / 2 ^ n) 1 = if b = true then 1 else 0) : Ret 74 #[.agg #[.int .u64 (h : Int), .int .u64 (l : Int)], .int .i64 (n : Int)] (.bool b) := by
  intro W
  have hs : (n : Int) < 64 := by omega
  cases b
  · simp only [Bool.false_eq_true, if_false] at fb
    go_enter Try.func74, Try.ntmps74
    go_wp2
    go_ret
    exact ⟨by simp, by go_grown⟩
  · simp only [if_true] at fb
    go_enter Try.func74, Try.ntmps74
    go_wp2
    go_ret
    exact ⟨by simp, by go_grown⟩
set_option maxHeartbeats 400000 in
theorem has_high (h l n : Nat) (b : Bool) (hn : 64 ≤ n) (hn2 : n < 128) (fb : bits .and .u64 ((h : Int) / 2 ^ (n - 64)) 1 = if b = true then 1 else 0) : Ret 74 #[.agg #[.int .u64 (h : Int), .int .u64 (l : Int)], .int .i64 (n : Int)] (.bool b) := by
  intro W
  cases b
  · simp only [Bool.false_eq_true, if_false] at fb
    go_enter Try.func74, Try.ntmps74
    go_wp2
    go_ret
    exact ⟨by simp, by go_grown⟩
  · simp only [if_true] at fb
    go_enter Try.func74, Try.ntmps74
    go_wp2
    go_ret
    exact ⟨by simp, by go_grown⟩
theorem shas_any (x : Nat × Nat) (n : Nat) (h1 : x.1 < 2 ^ 64) (h2 : x.2 < 2 ^ 64) (hn : n < 128) : Ret 74 #[.agg #[.int .u64 (x.1 : Int), .int .u64 (x.2 : Int)], .int .i64 (n : Int)] (.bool (hasE x n)) := by
  unfold hasE
  by_cases h : n < 64
  · rw [if_pos h]
    refine has_low x.1 x.2 n _ h ?_
    rw [bit_nat x.2 n h2, Nat.testBit_eq_decide_div_mod_eq]
    rcases Nat.mod_two_eq_zero_or_one (x.2 / 2 ^ n) with e | e <;> simp [e]
  · rw [if_neg h]
    refine has_high x.1 x.2 n _ (by omega) hn ?_
    rw [bit_nat x.1 (n - 64) h1, Nat.testBit_eq_decide_div_mod_eq]
    rcases Nat.mod_two_eq_zero_or_one (x.1 / 2 ^ (n - 64)) with e | e <;> simp [e]
end Go.Proofs.Ytnecjkdlmecgdaa

/- Contracts of tower.MulX, Split and Join over the seat's translation. -/
namespace Go.Proofs.Ytnecjkdlmecgdaa
open Go.RowKit
open Tw (px)

theorem of_ret (l : Int) (ah al : Nat) (h2 : al < 2 ^ 64) : Ret 54 #[.int .i64 l, .agg #[.int .u64 (ah : Int), .int .u64 (al : Int)]] (.bool (ofB l ah al)) := fun W => of_any l ah al (by omega) (by omega) W

set_option maxHeartbeats 400000 in
theorem mulx_low (l : Int) (ah al r : Nat) (h7 : ¬ l = 7) (HO : Ret 54 #[.int .i64 l, .agg #[.int .u64 (ah : Int), .int .u64 (al : Int)]] (.bool true)) (HX : Hid (∀ W, Calls Try.prog 102 #[.int .i64 l, .int .u64 (al : Int)] W fun e w' => e = .returned (.int .u64 (r : Nat)) ∧ w' = W)) :
    Ret 91 #[.int .i64 l, .agg #[.int .u64 (ah : Int), .int .u64 (al : Int)]] (.agg #[.int .u64 0, .int .u64 (r : Int)]) := by
  intro W
  go_enter Try.func91, Try.ntmps91
  go_wp2_with fail
  refine (HO.go _).mono ?_
  rintro e w1 ⟨rfl, hb1⟩
  have A : El w1 W.heap.size ah al := El.below ⟨by simp [go_sem], by simp [go_sem]⟩ hb1
  have R : Ew w1 (W.heap.size + 1) 0 0 := Ew.below ⟨⟨by simp [go_sem], by simp [go_sem]⟩, by simp [go_sem], by simp [go_sem]⟩ hb1
  have D : Below W.heap.size W w1 := (((Below.refl _ _).alloc (Nat.le_refl _) _).alloc (by simp) _).trans (hb1.mono (by simp <;> omega))
  obtain ⟨a1, a0⟩ := A
  obtain ⟨⟨r1, r0⟩, f1, f0⟩ := R
  clear hb1
  go_wp2_with (go_at_call 102; refine (HX.out _).mono ?_; rintro e w2 ⟨rfl, rfl⟩)
  refine bodyPost_ret (v := .agg #[.int .u64 0, .int .u64 (r : Int)]) (by simp [results, Try.results91, go_sem, *]) rfl ⟨rfl, ?_⟩
  exact (D.setCell (by simp) _).setCell (by simp) _

set_option maxHeartbeats 400000 in
theorem split1 (ah al q r : Nat) (HO : Ret 54 #[.int .i64 1, .agg #[.int .u64 (ah : Int), .int .u64 (al : Int)]] (.bool true)) (hq : Hid ((al : Int) / 2 = (q : Int))) (fr : bits .and .u64 (al : Int) 1 = (r : Int)) :
    Ret 90 #[.int .i64 1, .agg #[.int .u64 (ah : Int), .int .u64 (al : Int)]] (.tuple #[.agg #[.int .u64 0, .int .u64 (q : Int)], .agg #[.int .u64 0, .int .u64 (r : Int)]]) := by
  intro W
  go_enter Try.func90, Try.ntmps90
  go_wp2_with fail
  refine (HO.go _).mono ?_
  rintro e w1 ⟨rfl, hb1⟩
  have A : El w1 W.heap.size ah al := El.below ⟨by simp [go_sem], by simp [go_sem]⟩ hb1
  have R : Ew w1 (W.heap.size + 1) 0 0 := Ew.below ⟨⟨by simp [go_sem], by simp [go_sem]⟩, by simp [go_sem], by simp [go_sem]⟩ hb1
  have R2 : Ew w1 (W.heap.size + 1 + 1) 0 0 := Ew.below ⟨⟨by simp [go_sem], by simp [go_sem]⟩, by simp [go_sem], by simp [go_sem]⟩ hb1
  have D : Below W.heap.size W w1 := ((((Below.refl _ _).alloc (Nat.le_refl _) _).alloc (by simp) _).alloc (by simp <;> omega) _).trans (hb1.mono (by simp <;> omega))
  obtain ⟨a1, a0⟩ := A
  obtain ⟨⟨r1, r0⟩, f1, f0⟩ := R
  obtain ⟨⟨s1, s0⟩, g1, g0⟩ := R2
  clear hb1
  go_wp2_with fail
  go_region
  all_goals
    go_wp2
    refine bodyPost_ret (v := .tuple #[.agg #[.int .u64 0, .int .u64 ((al : Int) / 2)], .agg #[.int .u64 0, .int .u64 (r : Int)]]) (by simp [results, Try.results90, go_sem, *]) rfl ⟨by rw [hq.out], ?_⟩
    exact ((((D.setCell (by simp) _).setCell (by simp) _).setCell (by simp <;> omega) _).setCell (by simp <;> omega) _).drew

set_option maxHeartbeats 400000 in
theorem join1 (ah al bh bl r : Nat) (HO : Ret 54 #[.int .i64 0, .agg #[.int .u64 (ah : Int), .int .u64 (al : Int)]] (.bool true)) (HO2 : Ret 54 #[.int .i64 0, .agg #[.int .u64 (bh : Int), .int .u64 (bl : Int)]] (.bool true)) (h4 : al < 2) (fr : Hid (bits .or .u64 ((al : Int) * 2) (bl : Int) = (r : Int))) :
    Ret 92 #[.int .i64 1, .agg #[.int .u64 (ah : Int), .int .u64 (al : Int)], .agg #[.int .u64 (bh : Int), .int .u64 (bl : Int)]] (.agg #[.int .u64 0, .int .u64 (r : Int)]) := by
  intro W
  go_enter Try.func92, Try.ntmps92
  go_wp2_with fail
  refine (HO.go _).mono ?_
  rintro e w1 ⟨rfl, hb1⟩
  have A : El w1 W.heap.size ah al := El.below ⟨by simp [go_sem], by simp [go_sem]⟩ hb1
  have B : El w1 (W.heap.size + 1) bh bl := El.below ⟨by simp [go_sem], by simp [go_sem]⟩ hb1
  have R : Ew w1 (W.heap.size + 1 + 1) 0 0 := Ew.below ⟨⟨by simp [go_sem], by simp [go_sem]⟩, by simp [go_sem], by simp [go_sem]⟩ hb1
  have D : Below W.heap.size W w1 := ((((Below.refl _ _).alloc (Nat.le_refl _) _).alloc (by simp) _).alloc (by simp <;> omega) _).trans (hb1.mono (by simp <;> omega))
  have b1 := B.hi
  have b0 := B.lo
  clear hb1
  go_wp2_with fail
  refine (HO2.go _).mono ?_
  rintro e w2 ⟨rfl, hb2⟩
  have A := A.below hb2
  have B := B.below hb2
  have R := R.below hb2
  have D := D.trans (hb2.mono D.size)
  obtain ⟨a1, a0⟩ := A
  obtain ⟨b1, b0⟩ := B
  obtain ⟨⟨r1, r0⟩, f1, f0⟩ := R
  clear hb2
  go_wp2_with fail
  go_region
  all_goals
    go_wp2
    refine bodyPost_ret (v := .agg #[.int .u64 0, .int .u64 (bits .or .u64 ((al : Int) * 2) (bl : Int))]) (by simp [results, Try.results92, go_sem, *]) rfl ⟨by rw [fr.out], ?_⟩
    exact ((D.setCell (by simp <;> omega) _).setCell (by simp <;> omega) _).drew
set_option maxHeartbeats 400000 in
theorem split2 (ah al q r : Nat) (HO : Ret 54 #[.int .i64 2, .agg #[.int .u64 (ah : Int), .int .u64 (al : Int)]] (.bool true)) (hq : Hid ((al : Int) / 4 = (q : Int))) (fr : bits .and .u64 (al : Int) 3 = (r : Int)) :
    Ret 90 #[.int .i64 2, .agg #[.int .u64 (ah : Int), .int .u64 (al : Int)]] (.tuple #[.agg #[.int .u64 0, .int .u64 (q : Int)], .agg #[.int .u64 0, .int .u64 (r : Int)]]) := by
  intro W
  go_enter Try.func90, Try.ntmps90
  go_wp2_with fail
  refine (HO.go _).mono ?_
  rintro e w1 ⟨rfl, hb1⟩
  have A : El w1 W.heap.size ah al := El.below ⟨by simp [go_sem], by simp [go_sem]⟩ hb1
  have R : Ew w1 (W.heap.size + 1) 0 0 := Ew.below ⟨⟨by simp [go_sem], by simp [go_sem]⟩, by simp [go_sem], by simp [go_sem]⟩ hb1
  have R2 : Ew w1 (W.heap.size + 1 + 1) 0 0 := Ew.below ⟨⟨by simp [go_sem], by simp [go_sem]⟩, by simp [go_sem], by simp [go_sem]⟩ hb1
  have D : Below W.heap.size W w1 := ((((Below.refl _ _).alloc (Nat.le_refl _) _).alloc (by simp) _).alloc (by simp <;> omega) _).trans (hb1.mono (by simp <;> omega))
  obtain ⟨a1, a0⟩ := A
  obtain ⟨⟨r1, r0⟩, f1, f0⟩ := R
  obtain ⟨⟨s1, s0⟩, g1, g0⟩ := R2
  clear hb1
  go_wp2_with fail
  go_region
  all_goals
    go_wp2
    refine bodyPost_ret (v := .tuple #[.agg #[.int .u64 0, .int .u64 ((al : Int) / 4)], .agg #[.int .u64 0, .int .u64 (r : Int)]]) (by simp [results, Try.results90, go_sem, *]) rfl ⟨by rw [hq.out], ?_⟩
    exact ((((D.setCell (by simp) _).setCell (by simp) _).setCell (by simp <;> omega) _).setCell (by simp <;> omega) _).drew

set_option maxHeartbeats 400000 in
theorem join2 (ah al bh bl r : Nat) (HO : Ret 54 #[.int .i64 1, .agg #[.int .u64 (ah : Int), .int .u64 (al : Int)]] (.bool true)) (HO2 : Ret 54 #[.int .i64 1, .agg #[.int .u64 (bh : Int), .int .u64 (bl : Int)]] (.bool true)) (h4 : al < 4) (fr : Hid (bits .or .u64 ((al : Int) * 4) (bl : Int) = (r : Int))) :
    Ret 92 #[.int .i64 2, .agg #[.int .u64 (ah : Int), .int .u64 (al : Int)], .agg #[.int .u64 (bh : Int), .int .u64 (bl : Int)]] (.agg #[.int .u64 0, .int .u64 (r : Int)]) := by
  intro W
  go_enter Try.func92, Try.ntmps92
  go_wp2_with fail
  refine (HO.go _).mono ?_
  rintro e w1 ⟨rfl, hb1⟩
  have A : El w1 W.heap.size ah al := El.below ⟨by simp [go_sem], by simp [go_sem]⟩ hb1
  have B : El w1 (W.heap.size + 1) bh bl := El.below ⟨by simp [go_sem], by simp [go_sem]⟩ hb1
  have R : Ew w1 (W.heap.size + 1 + 1) 0 0 := Ew.below ⟨⟨by simp [go_sem], by simp [go_sem]⟩, by simp [go_sem], by simp [go_sem]⟩ hb1
  have D : Below W.heap.size W w1 := ((((Below.refl _ _).alloc (Nat.le_refl _) _).alloc (by simp) _).alloc (by simp <;> omega) _).trans (hb1.mono (by simp <;> omega))
  have b1 := B.hi
  have b0 := B.lo
  clear hb1
  go_wp2_with fail
  refine (HO2.go _).mono ?_
  rintro e w2 ⟨rfl, hb2⟩
  have A := A.below hb2
  have B := B.below hb2
  have R := R.below hb2
  have D := D.trans (hb2.mono D.size)
  obtain ⟨a1, a0⟩ := A
  obtain ⟨b1, b0⟩ := B
  obtain ⟨⟨r1, r0⟩, f1, f0⟩ := R
  clear hb2
  go_wp2_with fail
  go_region
  all_goals
    go_wp2
    refine bodyPost_ret (v := .agg #[.int .u64 0, .int .u64 (bits .or .u64 ((al : Int) * 4) (bl : Int))]) (by simp [results, Try.results92, go_sem, *]) rfl ⟨by rw [fr.out], ?_⟩
    exact ((D.setCell (by simp <;> omega) _).setCell (by simp <;> omega) _).drew
set_option maxHeartbeats 400000 in
theorem split3 (ah al q r : Nat) (HO : Ret 54 #[.int .i64 3, .agg #[.int .u64 (ah : Int), .int .u64 (al : Int)]] (.bool true)) (hq : Hid ((al : Int) / 16 = (q : Int))) (fr : bits .and .u64 (al : Int) 15 = (r : Int)) :
    Ret 90 #[.int .i64 3, .agg #[.int .u64 (ah : Int), .int .u64 (al : Int)]] (.tuple #[.agg #[.int .u64 0, .int .u64 (q : Int)], .agg #[.int .u64 0, .int .u64 (r : Int)]]) := by
  intro W
  go_enter Try.func90, Try.ntmps90
  go_wp2_with fail
  refine (HO.go _).mono ?_
  rintro e w1 ⟨rfl, hb1⟩
  have A : El w1 W.heap.size ah al := El.below ⟨by simp [go_sem], by simp [go_sem]⟩ hb1
  have R : Ew w1 (W.heap.size + 1) 0 0 := Ew.below ⟨⟨by simp [go_sem], by simp [go_sem]⟩, by simp [go_sem], by simp [go_sem]⟩ hb1
  have R2 : Ew w1 (W.heap.size + 1 + 1) 0 0 := Ew.below ⟨⟨by simp [go_sem], by simp [go_sem]⟩, by simp [go_sem], by simp [go_sem]⟩ hb1
  have D : Below W.heap.size W w1 := ((((Below.refl _ _).alloc (Nat.le_refl _) _).alloc (by simp) _).alloc (by simp <;> omega) _).trans (hb1.mono (by simp <;> omega))
  obtain ⟨a1, a0⟩ := A
  obtain ⟨⟨r1, r0⟩, f1, f0⟩ := R
  obtain ⟨⟨s1, s0⟩, g1, g0⟩ := R2
  clear hb1
  go_wp2_with fail
  go_region
  all_goals
    go_wp2
    refine bodyPost_ret (v := .tuple #[.agg #[.int .u64 0, .int .u64 ((al : Int) / 16)], .agg #[.int .u64 0, .int .u64 (r : Int)]]) (by simp [results, Try.results90, go_sem, *]) rfl ⟨by rw [hq.out], ?_⟩
    exact ((((D.setCell (by simp) _).setCell (by simp) _).setCell (by simp <;> omega) _).setCell (by simp <;> omega) _).drew

set_option maxHeartbeats 400000 in
theorem join3 (ah al bh bl r : Nat) (HO : Ret 54 #[.int .i64 2, .agg #[.int .u64 (ah : Int), .int .u64 (al : Int)]] (.bool true)) (HO2 : Ret 54 #[.int .i64 2, .agg #[.int .u64 (bh : Int), .int .u64 (bl : Int)]] (.bool true)) (h4 : al < 16) (fr : Hid (bits .or .u64 ((al : Int) * 16) (bl : Int) = (r : Int))) :
    Ret 92 #[.int .i64 3, .agg #[.int .u64 (ah : Int), .int .u64 (al : Int)], .agg #[.int .u64 (bh : Int), .int .u64 (bl : Int)]] (.agg #[.int .u64 0, .int .u64 (r : Int)]) := by
  intro W
  go_enter Try.func92, Try.ntmps92
  go_wp2_with fail
  refine (HO.go _).mono ?_
  rintro e w1 ⟨rfl, hb1⟩
  have A : El w1 W.heap.size ah al := El.below ⟨by simp [go_sem], by simp [go_sem]⟩ hb1
  have B : El w1 (W.heap.size + 1) bh bl := El.below ⟨by simp [go_sem], by simp [go_sem]⟩ hb1
  have R : Ew w1 (W.heap.size + 1 + 1) 0 0 := Ew.below ⟨⟨by simp [go_sem], by simp [go_sem]⟩, by simp [go_sem], by simp [go_sem]⟩ hb1
  have D : Below W.heap.size W w1 := ((((Below.refl _ _).alloc (Nat.le_refl _) _).alloc (by simp) _).alloc (by simp <;> omega) _).trans (hb1.mono (by simp <;> omega))
  have b1 := B.hi
  have b0 := B.lo
  clear hb1
  go_wp2_with fail
  refine (HO2.go _).mono ?_
  rintro e w2 ⟨rfl, hb2⟩
  have A := A.below hb2
  have B := B.below hb2
  have R := R.below hb2
  have D := D.trans (hb2.mono D.size)
  obtain ⟨a1, a0⟩ := A
  obtain ⟨b1, b0⟩ := B
  obtain ⟨⟨r1, r0⟩, f1, f0⟩ := R
  clear hb2
  go_wp2_with fail
  go_region
  all_goals
    go_wp2
    refine bodyPost_ret (v := .agg #[.int .u64 0, .int .u64 (bits .or .u64 ((al : Int) * 16) (bl : Int))]) (by simp [results, Try.results92, go_sem, *]) rfl ⟨by rw [fr.out], ?_⟩
    exact ((D.setCell (by simp <;> omega) _).setCell (by simp <;> omega) _).drew
set_option maxHeartbeats 400000 in
theorem split4 (ah al q r : Nat) (HO : Ret 54 #[.int .i64 4, .agg #[.int .u64 (ah : Int), .int .u64 (al : Int)]] (.bool true)) (hq : Hid ((al : Int) / 256 = (q : Int))) (fr : bits .and .u64 (al : Int) 255 = (r : Int)) :
    Ret 90 #[.int .i64 4, .agg #[.int .u64 (ah : Int), .int .u64 (al : Int)]] (.tuple #[.agg #[.int .u64 0, .int .u64 (q : Int)], .agg #[.int .u64 0, .int .u64 (r : Int)]]) := by
  intro W
  go_enter Try.func90, Try.ntmps90
  go_wp2_with fail
  refine (HO.go _).mono ?_
  rintro e w1 ⟨rfl, hb1⟩
  have A : El w1 W.heap.size ah al := El.below ⟨by simp [go_sem], by simp [go_sem]⟩ hb1
  have R : Ew w1 (W.heap.size + 1) 0 0 := Ew.below ⟨⟨by simp [go_sem], by simp [go_sem]⟩, by simp [go_sem], by simp [go_sem]⟩ hb1
  have R2 : Ew w1 (W.heap.size + 1 + 1) 0 0 := Ew.below ⟨⟨by simp [go_sem], by simp [go_sem]⟩, by simp [go_sem], by simp [go_sem]⟩ hb1
  have D : Below W.heap.size W w1 := ((((Below.refl _ _).alloc (Nat.le_refl _) _).alloc (by simp) _).alloc (by simp <;> omega) _).trans (hb1.mono (by simp <;> omega))
  obtain ⟨a1, a0⟩ := A
  obtain ⟨⟨r1, r0⟩, f1, f0⟩ := R
  obtain ⟨⟨s1, s0⟩, g1, g0⟩ := R2
  clear hb1
  go_wp2_with fail
  go_region
  all_goals
    go_wp2
    refine bodyPost_ret (v := .tuple #[.agg #[.int .u64 0, .int .u64 ((al : Int) / 256)], .agg #[.int .u64 0, .int .u64 (r : Int)]]) (by simp [results, Try.results90, go_sem, *]) rfl ⟨by rw [hq.out], ?_⟩
    exact ((((D.setCell (by simp) _).setCell (by simp) _).setCell (by simp <;> omega) _).setCell (by simp <;> omega) _).drew

set_option maxHeartbeats 400000 in
theorem join4 (ah al bh bl r : Nat) (HO : Ret 54 #[.int .i64 3, .agg #[.int .u64 (ah : Int), .int .u64 (al : Int)]] (.bool true)) (HO2 : Ret 54 #[.int .i64 3, .agg #[.int .u64 (bh : Int), .int .u64 (bl : Int)]] (.bool true)) (h4 : al < 256) (fr : Hid (bits .or .u64 ((al : Int) * 256) (bl : Int) = (r : Int))) :
    Ret 92 #[.int .i64 4, .agg #[.int .u64 (ah : Int), .int .u64 (al : Int)], .agg #[.int .u64 (bh : Int), .int .u64 (bl : Int)]] (.agg #[.int .u64 0, .int .u64 (r : Int)]) := by
  intro W
  go_enter Try.func92, Try.ntmps92
  go_wp2_with fail
  refine (HO.go _).mono ?_
  rintro e w1 ⟨rfl, hb1⟩
  have A : El w1 W.heap.size ah al := El.below ⟨by simp [go_sem], by simp [go_sem]⟩ hb1
  have B : El w1 (W.heap.size + 1) bh bl := El.below ⟨by simp [go_sem], by simp [go_sem]⟩ hb1
  have R : Ew w1 (W.heap.size + 1 + 1) 0 0 := Ew.below ⟨⟨by simp [go_sem], by simp [go_sem]⟩, by simp [go_sem], by simp [go_sem]⟩ hb1
  have D : Below W.heap.size W w1 := ((((Below.refl _ _).alloc (Nat.le_refl _) _).alloc (by simp) _).alloc (by simp <;> omega) _).trans (hb1.mono (by simp <;> omega))
  have b1 := B.hi
  have b0 := B.lo
  clear hb1
  go_wp2_with fail
  refine (HO2.go _).mono ?_
  rintro e w2 ⟨rfl, hb2⟩
  have A := A.below hb2
  have B := B.below hb2
  have R := R.below hb2
  have D := D.trans (hb2.mono D.size)
  obtain ⟨a1, a0⟩ := A
  obtain ⟨b1, b0⟩ := B
  obtain ⟨⟨r1, r0⟩, f1, f0⟩ := R
  clear hb2
  go_wp2_with fail
  go_region
  all_goals
    go_wp2
    refine bodyPost_ret (v := .agg #[.int .u64 0, .int .u64 (bits .or .u64 ((al : Int) * 256) (bl : Int))]) (by simp [results, Try.results92, go_sem, *]) rfl ⟨by rw [fr.out], ?_⟩
    exact ((D.setCell (by simp <;> omega) _).setCell (by simp <;> omega) _).drew
set_option maxHeartbeats 400000 in
theorem split5 (ah al q r : Nat) (HO : Ret 54 #[.int .i64 5, .agg #[.int .u64 (ah : Int), .int .u64 (al : Int)]] (.bool true)) (hq : Hid ((al : Int) / 65536 = (q : Int))) (fr : bits .and .u64 (al : Int) 65535 = (r : Int)) :
    Ret 90 #[.int .i64 5, .agg #[.int .u64 (ah : Int), .int .u64 (al : Int)]] (.tuple #[.agg #[.int .u64 0, .int .u64 (q : Int)], .agg #[.int .u64 0, .int .u64 (r : Int)]]) := by
  intro W
  go_enter Try.func90, Try.ntmps90
  go_wp2_with fail
  refine (HO.go _).mono ?_
  rintro e w1 ⟨rfl, hb1⟩
  have A : El w1 W.heap.size ah al := El.below ⟨by simp [go_sem], by simp [go_sem]⟩ hb1
  have R : Ew w1 (W.heap.size + 1) 0 0 := Ew.below ⟨⟨by simp [go_sem], by simp [go_sem]⟩, by simp [go_sem], by simp [go_sem]⟩ hb1
  have R2 : Ew w1 (W.heap.size + 1 + 1) 0 0 := Ew.below ⟨⟨by simp [go_sem], by simp [go_sem]⟩, by simp [go_sem], by simp [go_sem]⟩ hb1
  have D : Below W.heap.size W w1 := ((((Below.refl _ _).alloc (Nat.le_refl _) _).alloc (by simp) _).alloc (by simp <;> omega) _).trans (hb1.mono (by simp <;> omega))
  obtain ⟨a1, a0⟩ := A
  obtain ⟨⟨r1, r0⟩, f1, f0⟩ := R
  obtain ⟨⟨s1, s0⟩, g1, g0⟩ := R2
  clear hb1
  go_wp2_with fail
  go_region
  all_goals
    go_wp2
    refine bodyPost_ret (v := .tuple #[.agg #[.int .u64 0, .int .u64 ((al : Int) / 65536)], .agg #[.int .u64 0, .int .u64 (r : Int)]]) (by simp [results, Try.results90, go_sem, *]) rfl ⟨by rw [hq.out], ?_⟩
    exact ((((D.setCell (by simp) _).setCell (by simp) _).setCell (by simp <;> omega) _).setCell (by simp <;> omega) _).drew

set_option maxHeartbeats 400000 in
theorem join5 (ah al bh bl r : Nat) (HO : Ret 54 #[.int .i64 4, .agg #[.int .u64 (ah : Int), .int .u64 (al : Int)]] (.bool true)) (HO2 : Ret 54 #[.int .i64 4, .agg #[.int .u64 (bh : Int), .int .u64 (bl : Int)]] (.bool true)) (h4 : al < 65536) (fr : Hid (bits .or .u64 ((al : Int) * 65536) (bl : Int) = (r : Int))) :
    Ret 92 #[.int .i64 5, .agg #[.int .u64 (ah : Int), .int .u64 (al : Int)], .agg #[.int .u64 (bh : Int), .int .u64 (bl : Int)]] (.agg #[.int .u64 0, .int .u64 (r : Int)]) := by
  intro W
  go_enter Try.func92, Try.ntmps92
  go_wp2_with fail
  refine (HO.go _).mono ?_
  rintro e w1 ⟨rfl, hb1⟩
  have A : El w1 W.heap.size ah al := El.below ⟨by simp [go_sem], by simp [go_sem]⟩ hb1
  have B : El w1 (W.heap.size + 1) bh bl := El.below ⟨by simp [go_sem], by simp [go_sem]⟩ hb1
  have R : Ew w1 (W.heap.size + 1 + 1) 0 0 := Ew.below ⟨⟨by simp [go_sem], by simp [go_sem]⟩, by simp [go_sem], by simp [go_sem]⟩ hb1
  have D : Below W.heap.size W w1 := ((((Below.refl _ _).alloc (Nat.le_refl _) _).alloc (by simp) _).alloc (by simp <;> omega) _).trans (hb1.mono (by simp <;> omega))
  have b1 := B.hi
  have b0 := B.lo
  clear hb1
  go_wp2_with fail
  refine (HO2.go _).mono ?_
  rintro e w2 ⟨rfl, hb2⟩
  have A := A.below hb2
  have B := B.below hb2
  have R := R.below hb2
  have D := D.trans (hb2.mono D.size)
  obtain ⟨a1, a0⟩ := A
  obtain ⟨b1, b0⟩ := B
  obtain ⟨⟨r1, r0⟩, f1, f0⟩ := R
  clear hb2
  go_wp2_with fail
  go_region
  all_goals
    go_wp2
    refine bodyPost_ret (v := .agg #[.int .u64 0, .int .u64 (bits .or .u64 ((al : Int) * 65536) (bl : Int))]) (by simp [results, Try.results92, go_sem, *]) rfl ⟨by rw [fr.out], ?_⟩
    exact ((D.setCell (by simp <;> omega) _).setCell (by simp <;> omega) _).drew
set_option maxHeartbeats 400000 in
theorem split6 (ah al q r : Nat) (HO : Ret 54 #[.int .i64 6, .agg #[.int .u64 (ah : Int), .int .u64 (al : Int)]] (.bool true)) (hq : Hid ((al : Int) / 4294967296 = (q : Int))) (fr : bits .and .u64 (al : Int) 4294967295 = (r : Int)) :
    Ret 90 #[.int .i64 6, .agg #[.int .u64 (ah : Int), .int .u64 (al : Int)]] (.tuple #[.agg #[.int .u64 0, .int .u64 (q : Int)], .agg #[.int .u64 0, .int .u64 (r : Int)]]) := by
  intro W
  go_enter Try.func90, Try.ntmps90
  go_wp2_with fail
  refine (HO.go _).mono ?_
  rintro e w1 ⟨rfl, hb1⟩
  have A : El w1 W.heap.size ah al := El.below ⟨by simp [go_sem], by simp [go_sem]⟩ hb1
  have R : Ew w1 (W.heap.size + 1) 0 0 := Ew.below ⟨⟨by simp [go_sem], by simp [go_sem]⟩, by simp [go_sem], by simp [go_sem]⟩ hb1
  have R2 : Ew w1 (W.heap.size + 1 + 1) 0 0 := Ew.below ⟨⟨by simp [go_sem], by simp [go_sem]⟩, by simp [go_sem], by simp [go_sem]⟩ hb1
  have D : Below W.heap.size W w1 := ((((Below.refl _ _).alloc (Nat.le_refl _) _).alloc (by simp) _).alloc (by simp <;> omega) _).trans (hb1.mono (by simp <;> omega))
  obtain ⟨a1, a0⟩ := A
  obtain ⟨⟨r1, r0⟩, f1, f0⟩ := R
  obtain ⟨⟨s1, s0⟩, g1, g0⟩ := R2
  clear hb1
  go_wp2_with fail
  go_region
  all_goals
    go_wp2
    refine bodyPost_ret (v := .tuple #[.agg #[.int .u64 0, .int .u64 ((al : Int) / 4294967296)], .agg #[.int .u64 0, .int .u64 (r : Int)]]) (by simp [results, Try.results90, go_sem, *]) rfl ⟨by rw [hq.out], ?_⟩
    exact ((((D.setCell (by simp) _).setCell (by simp) _).setCell (by simp <;> omega) _).setCell (by simp <;> omega) _).drew

set_option maxHeartbeats 400000 in
theorem join6 (ah al bh bl r : Nat) (HO : Ret 54 #[.int .i64 5, .agg #[.int .u64 (ah : Int), .int .u64 (al : Int)]] (.bool true)) (HO2 : Ret 54 #[.int .i64 5, .agg #[.int .u64 (bh : Int), .int .u64 (bl : Int)]] (.bool true)) (h4 : al < 4294967296) (fr : Hid (bits .or .u64 ((al : Int) * 4294967296) (bl : Int) = (r : Int))) :
    Ret 92 #[.int .i64 6, .agg #[.int .u64 (ah : Int), .int .u64 (al : Int)], .agg #[.int .u64 (bh : Int), .int .u64 (bl : Int)]] (.agg #[.int .u64 0, .int .u64 (r : Int)]) := by
  intro W
  go_enter Try.func92, Try.ntmps92
  go_wp2_with fail
  refine (HO.go _).mono ?_
  rintro e w1 ⟨rfl, hb1⟩
  have A : El w1 W.heap.size ah al := El.below ⟨by simp [go_sem], by simp [go_sem]⟩ hb1
  have B : El w1 (W.heap.size + 1) bh bl := El.below ⟨by simp [go_sem], by simp [go_sem]⟩ hb1
  have R : Ew w1 (W.heap.size + 1 + 1) 0 0 := Ew.below ⟨⟨by simp [go_sem], by simp [go_sem]⟩, by simp [go_sem], by simp [go_sem]⟩ hb1
  have D : Below W.heap.size W w1 := ((((Below.refl _ _).alloc (Nat.le_refl _) _).alloc (by simp) _).alloc (by simp <;> omega) _).trans (hb1.mono (by simp <;> omega))
  have b1 := B.hi
  have b0 := B.lo
  clear hb1
  go_wp2_with fail
  refine (HO2.go _).mono ?_
  rintro e w2 ⟨rfl, hb2⟩
  have A := A.below hb2
  have B := B.below hb2
  have R := R.below hb2
  have D := D.trans (hb2.mono D.size)
  obtain ⟨a1, a0⟩ := A
  obtain ⟨b1, b0⟩ := B
  obtain ⟨⟨r1, r0⟩, f1, f0⟩ := R
  clear hb2
  go_wp2_with fail
  go_region
  all_goals
    go_wp2
    refine bodyPost_ret (v := .agg #[.int .u64 0, .int .u64 (bits .or .u64 ((al : Int) * 4294967296) (bl : Int))]) (by simp [results, Try.results92, go_sem, *]) rfl ⟨by rw [fr.out], ?_⟩
    exact ((D.setCell (by simp <;> omega) _).setCell (by simp <;> omega) _).drew
set_option maxHeartbeats 400000 in
theorem split7 (ah al : Nat) (HO : Ret 54 #[.int .i64 7, .agg #[.int .u64 (ah : Int), .int .u64 (al : Int)]] (.bool true)) :
    Ret 90 #[.int .i64 7, .agg #[.int .u64 (ah : Int), .int .u64 (al : Int)]] (.tuple #[.agg #[.int .u64 0, .int .u64 (ah : Int)], .agg #[.int .u64 0, .int .u64 (al : Int)]]) := by
  intro W
  go_enter Try.func90, Try.ntmps90
  go_wp2_with fail
  refine (HO.go _).mono ?_
  rintro e w1 ⟨rfl, hb1⟩
  have A : El w1 W.heap.size ah al := El.below ⟨by simp [go_sem], by simp [go_sem]⟩ hb1
  have R : Ew w1 (W.heap.size + 1) 0 0 := Ew.below ⟨⟨by simp [go_sem], by simp [go_sem]⟩, by simp [go_sem], by simp [go_sem]⟩ hb1
  have R2 : Ew w1 (W.heap.size + 1 + 1) 0 0 := Ew.below ⟨⟨by simp [go_sem], by simp [go_sem]⟩, by simp [go_sem], by simp [go_sem]⟩ hb1
  have D : Below W.heap.size W w1 := ((((Below.refl _ _).alloc (Nat.le_refl _) _).alloc (by simp) _).alloc (by simp <;> omega) _).trans (hb1.mono (by simp <;> omega))
  obtain ⟨a1, a0⟩ := A
  obtain ⟨⟨r1, r0⟩, f1, f0⟩ := R
  obtain ⟨⟨s1, s0⟩, g1, g0⟩ := R2
  clear hb1
  go_wp2_with fail
  go_region
  all_goals
    go_wp2
    refine bodyPost_ret (v := .tuple #[.agg #[.int .u64 0, .int .u64 (ah : Int)], .agg #[.int .u64 0, .int .u64 (al : Int)]]) (by simp [results, Try.results90, go_sem, *]) rfl ⟨rfl, ?_⟩
    exact ((((D.setCell (by simp) _).setCell (by simp) _).setCell (by simp <;> omega) _).setCell (by simp <;> omega) _).drew

set_option maxHeartbeats 400000 in
theorem join7 (ah al bh bl : Nat) (HO : Ret 54 #[.int .i64 6, .agg #[.int .u64 (ah : Int), .int .u64 (al : Int)]] (.bool true)) (HO2 : Ret 54 #[.int .i64 6, .agg #[.int .u64 (bh : Int), .int .u64 (bl : Int)]] (.bool true)) :
    Ret 92 #[.int .i64 7, .agg #[.int .u64 (ah : Int), .int .u64 (al : Int)], .agg #[.int .u64 (bh : Int), .int .u64 (bl : Int)]] (.agg #[.int .u64 (al : Int), .int .u64 (bl : Int)]) := by
  intro W
  go_enter Try.func92, Try.ntmps92
  go_wp2_with fail
  refine (HO.go _).mono ?_
  rintro e w1 ⟨rfl, hb1⟩
  have A : El w1 W.heap.size ah al := El.below ⟨by simp [go_sem], by simp [go_sem]⟩ hb1
  have B : El w1 (W.heap.size + 1) bh bl := El.below ⟨by simp [go_sem], by simp [go_sem]⟩ hb1
  have R : Ew w1 (W.heap.size + 1 + 1) 0 0 := Ew.below ⟨⟨by simp [go_sem], by simp [go_sem]⟩, by simp [go_sem], by simp [go_sem]⟩ hb1
  have D : Below W.heap.size W w1 := ((((Below.refl _ _).alloc (Nat.le_refl _) _).alloc (by simp) _).alloc (by simp <;> omega) _).trans (hb1.mono (by simp <;> omega))
  have b1 := B.hi
  have b0 := B.lo
  clear hb1
  go_wp2_with fail
  refine (HO2.go _).mono ?_
  rintro e w2 ⟨rfl, hb2⟩
  have A := A.below hb2
  have B := B.below hb2
  have R := R.below hb2
  have D := D.trans (hb2.mono D.size)
  obtain ⟨a1, a0⟩ := A
  obtain ⟨b1, b0⟩ := B
  obtain ⟨⟨r1, r0⟩, f1, f0⟩ := R
  clear hb2
  go_wp2
  refine bodyPost_ret (v := .agg #[.int .u64 (al : Int), .int .u64 (bl : Int)]) (by simp [results, Try.results92, go_sem, *]) rfl ⟨rfl, ?_⟩
  exact (D.setCell (by simp <;> omega) _).setCell (by simp <;> omega) _
end Go.Proofs.Ytnecjkdlmecgdaa
