/- The walk of WeaveBits over the seat's translation, level by level. -/
import Derived.Test.YtflkchhdgiojgaaWvH
namespace Go.Proofs.Ytflkchhdgiojgaa
open Go.RowKit

/-- Bits, gathered. -/
def gB (k q : Nat) (bs : List Bool) : List (Nat × Nat) := (List.range q).map fun i => jnd k k (((bE bs).drop (i * 2 ^ k)).take (2 ^ k))
theorem gB_len (k q : Nat) (bs : List Bool) : (gB k q bs).length = q := by simp [gB]
theorem gB_at (k q : Nat) (bs : List Bool) (i : Nat) (hi : i < q) : (gB k q bs).getD i (0, 0) = jnd k k (((bE bs).drop (i * 2 ^ k)).take (2 ^ k)) := by simp [gB, List.getD, hi]
theorem gB_part (k q : Nat) (bs : List Bool) (hq : bs.length = q * 2 ^ k) (i : Nat) (hi : i < q) : (((bE bs).drop (i * 2 ^ k)).take (2 ^ k)).length = 2 ^ k := by
  have hlt : (i + 1) * 2 ^ k ≤ bs.length := by rw [hq]; exact Nat.mul_le_mul_right _ hi
  rw [Nat.add_mul, Nat.one_mul] at hlt
  rw [List.length_take, List.length_drop, bE_len]; omega
theorem gB_parts (k : Nat) (bs : List Bool) (i : Nat) : ∀ e ∈ ((bE bs).drop (i * 2 ^ k)).take (2 ^ k), ofB ((k - k : Nat) : Int) (e.1 : Int) (e.2 : Int) = true := fun e he => by
  rw [Nat.sub_self]; exact bE_of bs e (List.mem_of_mem_drop (List.mem_of_mem_take he))
theorem gB_of (k q : Nat) (hk : k < 8) (bs : List Bool) (hq : bs.length = q * 2 ^ k) (i : Nat) (hi : i < q) : ofB (k : Int) (((gB k q bs).getD i (0, 0)).1 : Nat) (((gB k q bs).getD i (0, 0)).2 : Nat) = true := by
  rw [gB_at k q bs i hi]
  exact jnd_of k k _ (Nat.le_refl _) hk (gB_part k q bs hq i hi) (gB_parts k bs i)
theorem jn_lt (k : Nat) (hk : k < 8) (x y : Nat × Nat) (hx : x.2 < 2 ^ 64) (hy : y.2 < 2 ^ 64) (o : ofB (k : Int) ((jn k x y).1 : Nat) ((jn k x y).2 : Nat) = true) : (jn k x y).1 < 2 ^ 64 ∧ (jn k x y).2 < 2 ^ 64 := by
  by_cases h7 : k = 7
  · subst h7; exact ⟨hx, hy⟩
  · exact of_lt64 (by omega) o
theorem jnd_lt : ∀ (d k : Nat) (es : List (Nat × Nat)), d ≤ k → k < 8 → es.length = 2 ^ d → ltE es → (∀ e ∈ es, ofB ((k - d : Nat) : Int) (e.1 : Int) (e.2 : Int) = true) → (jnd d k es).1 < 2 ^ 64 ∧ (jnd d k es).2 < 2 ^ 64 := by
  intro d
  induction d with
  | zero => intro k es _ _ _ h _; exact h.at 0
  | succ d ih =>
    intro k es hd hk hl hes ho
    have hp : 2 ^ (d + 1) = 2 ^ d + 2 ^ d := by rw [Nat.pow_succ]; omega
    have hs : k - 1 - d = k - (d + 1) := by omega
    exact jn_lt k hk _ _ (ih (k - 1) _ (by omega) (by omega) (by rw [List.length_drop]; omega) (fun e he => hes e (List.mem_of_mem_drop he)) (fun e he => by rw [hs]; exact ho e (List.mem_of_mem_drop he))).2
      (ih (k - 1) _ (by omega) (by omega) (by rw [List.length_take]; omega) (fun e he => hes e (List.mem_of_mem_take he)) (fun e he => by rw [hs]; exact ho e (List.mem_of_mem_take he))).2 (jnd_of (d + 1) k es hd hk hl ho)
theorem gB_lt (k q : Nat) (hk : k < 8) (bs : List Bool) (hq : bs.length = q * 2 ^ k) (i : Nat) (hi : i < q) : ((gB k q bs).getD i (0, 0)).1 < 2 ^ 64 ∧ ((gB k q bs).getD i (0, 0)).2 < 2 ^ 64 := by
  rw [gB_at k q bs i hi]
  exact jnd_lt k k _ (Nat.le_refl _) hk (gB_part k q bs hq i hi) (fun e he => bE_lt bs e (List.mem_of_mem_drop (List.mem_of_mem_take he))) (gB_parts k bs i)
theorem gB_bit (k q : Nat) (hk : k < 8) (bs : List Bool) (hq : bs.length = q * 2 ^ k) (i : Nat) (hi : i < q) (m : Nat) (hm : m < 2 ^ k) : hasB ((gB k q bs).getD i (0, 0)).1 ((gB k q bs).getD i (0, 0)).2 m = bs.getD (i * 2 ^ k + m) false := by
  rw [gB_at k q bs i hi, jnd_has k k _ (Nat.le_refl _) hk (gB_part k q bs hq i hi) (gB_parts k bs i) m hm, Nat.sub_self, show (2 : Nat) ^ 0 = 1 by decide, Nat.div_one, Nat.mod_one, getD_take _ _ _ _ hm, getD_drop, bE_at]
  cases bs.getD (i * 2 ^ k + m) false <;> decide
theorem wbits_ok (k q : Nat) (hk : k < 8) (a : Option Addr) (cap : Nat) (bs : List Bool) (hn : bs.length ≤ 1000) (hq : bs.length = q * 2 ^ k) (W : World) (hr : BRow W a bs) :
    Calls Try.prog 22 #[.int .i64 (k : Int), .slice a bs.length cap] W fun e w' => ∃ p, e = .returned (.tuple #[.slice (some ⟨p, 0, none⟩) q q, .int .i64 0]) ∧ ERow w' (some ⟨p, 0, none⟩) (gB k q bs) ∧ Below W.heap.size W w' := by
  refine (wbits_core (k : Int) a cap bs hn W hr (fun x y w' => ∃ p, x = .slice (some ⟨p, 0, none⟩) q q ∧ y = .int .i64 0 ∧ ERow w' (some ⟨p, 0, none⟩) (gB k q bs)) ?_).mono ?_
  · intro w g hb hE
    have := gather_ok 0 k k q (Nat.zero_add k) hk (some ⟨g, 0, none⟩) g 0 bs.length (bE bs) (gB k q bs) (.inr rfl) (by rw [bE_len]; exact hq) (by rw [bE_len]; omega) (by rw [bE_len]; exact Nat.le_refl _) (bE_lt bs) (List.all_eq_true.2 (bE_of bs)) (gB_len k q bs) (fun i hi => gB_at k q bs i hi) w hE
    rw [bE_len] at this
    refine this.mono ?_
    rintro e w' ⟨p, rfl, h1, _, h2⟩
    exact ⟨_, _, rfl, ⟨p, rfl, rfl, h1⟩, h2⟩
  · rintro e w' ⟨x, y, rfl, ⟨p, rfl, rfl, h1⟩, h2⟩
    exact ⟨p, rfl, h1, h2⟩
theorem wbits_size (k : Nat) (hk : k < 8) (a : Option Addr) (cap : Nat) (bs : List Bool) (hn : bs.length ≤ 1000) (hq : ¬ bs.length % 2 ^ k = 0) (W : World) (hr : BRow W a bs) :
    Calls Try.prog 22 #[.int .i64 (k : Int), .slice a bs.length cap] W fun e w' => e = .returned (.tuple #[.slice none 0 0, .int .i64 6]) ∧ Below W.heap.size W w' := by
  refine (wbits_core (k : Int) a cap bs hn W hr (fun x y _ => x = .slice none 0 0 ∧ y = .int .i64 6) ?_).mono ?_
  · intro w g hb hE
    refine (gather_size 0 k k (2 ^ k) (Nat.zero_add k) hk rfl (some ⟨g, 0, none⟩) bs.length bs.length hq w).mono ?_
    rintro e w' ⟨rfl, h2⟩
    exact ⟨_, _, rfl, ⟨rfl, rfl⟩, h2⟩
  · rintro e w' ⟨x, y, rfl, ⟨rfl, rfl⟩, h2⟩
    exact ⟨rfl, h2⟩
theorem wbits_arg (l : Int) (hl : ¬ (0 ≤ l ∧ l ≤ 7)) (a : Option Addr) (cap : Nat) (bs : List Bool) (hn : bs.length ≤ 1000) (W : World) (hr : BRow W a bs) :
    Calls Try.prog 22 #[.int .i64 l, .slice a bs.length cap] W fun e w' => e = .returned (.tuple #[.slice none 0 0, .int .i64 1]) ∧ Below W.heap.size W w' := by
  refine (wbits_core l a cap bs hn W hr (fun x y _ => x = .slice none 0 0 ∧ y = .int .i64 1) ?_).mono ?_
  · intro w g hb hE
    refine (gather_arg 0 l (by omega) _ w).mono ?_
    rintro e w' ⟨rfl, h2⟩
    exact ⟨_, _, rfl, ⟨rfl, rfl⟩, h2⟩
  · rintro e w' ⟨x, y, rfl, ⟨rfl, rfl⟩, h2⟩
    exact ⟨rfl, h2⟩
set_option maxHeartbeats 1000000 in
theorem wb_long (l : Int) (a : Option Addr) (n cap : Nat) (hn : 300 < n) (W : World) :
    Calls Try.prog 6 #[.int .i64 l, .slice a n cap] W fun e w' => e = .returned (.bool true) ∧ Below W.heap.size W w' := by
  have h1 : (300 : Int) < (n : Int) := by omega
  have AW := awake9
  go_enter Try.func6, Try.ntmps6
  go_wp2_with fail
  refine (AW.go _).mono ?_
  rintro e w1 ⟨rfl, hb1⟩
  go_wp2
  go_ret
  exact ⟨rfl, hb1⟩
set_option maxHeartbeats 1000000 in
theorem wb_arg (l : Int) (hl : ¬ (0 ≤ l ∧ l ≤ 7)) (a : Option Addr) (cap : Nat) (bs : List Bool) (hn : bs.length ≤ 300) (W : World) (hr : BRow W a bs) :
    Calls Try.prog 6 #[.int .i64 l, .slice a bs.length cap] W fun e w' => e = .returned (.bool true) ∧ Below W.heap.size W w' := by
  have h1 : ¬ (300 : Int) < (bs.length : Int) := by omega
  have HB := wbits_arg l hl a cap bs (by omega) W hr
  have AW := awake9
  clear hr
  rcases Int.lt_or_le l 0 with h2 | h2
  · clear hl
    go_enter Try.func6, Try.ntmps6
    go_wp2_with (first | (go_at_call 22; refine HB.mono ?_; rintro e w1 ⟨rfl, hb1⟩) | (go_at_call 7; refine (AW.go _).mono ?_; rintro e w2 ⟨rfl, hb2⟩))
    go_ret
    exact ⟨rfl, hb1.trans (hb2.mono hb1.size)⟩
  · have h3 : ¬ l ≤ 7 := fun h => hl ⟨h2, h⟩
    clear hl
    go_enter Try.func6, Try.ntmps6
    go_wp2_with (first | (go_at_call 22; refine HB.mono ?_; rintro e w1 ⟨rfl, hb1⟩) | (go_at_call 7; refine (AW.go _).mono ?_; rintro e w2 ⟨rfl, hb2⟩))
    go_ret
    exact ⟨rfl, hb1.trans (hb2.mono hb1.size)⟩
set_option maxHeartbeats 1000000 in
theorem wb_size1 (a : Option Addr) (cap : Nat) (bs : List Bool) (hn : bs.length ≤ 300) (hq : ¬ bs.length % 2 ^ 1 = 0) (W : World) (hr : BRow W a bs) :
    Calls Try.prog 6 #[.int .i64 1, .slice a bs.length cap] W fun e w' => e = .returned (.bool true) ∧ Below W.heap.size W w' := by
  have h1 : ¬ (300 : Int) < (bs.length : Int) := by omega
  have HB := wbits_size 1 (by decide) a cap bs (by omega) hq W hr
  have AW := awake9
  obtain ⟨m, hm⟩ : ∃ m : Nat, bs.length % 2 = m := ⟨_, rfl⟩
  have h3 : (bs.length : Int).tmod 2 = (m : Int) := by rw [Int.tmod_eq_emod_of_nonneg (by omega), ← hm]; simp
  have h4 : ¬ (m : Int) = 0 := by rw [show (2 : Nat) ^ 1 = 2 by decide, hm] at hq; omega
  clear hr hq hm
  go_enter Try.func6, Try.ntmps6
  go_wp2_with (first | (go_at_call 22; refine HB.mono ?_; rintro e w1 ⟨rfl, hb1⟩) | (go_at_call 7; refine (AW.go _).mono ?_; rintro e w2 ⟨rfl, hb2⟩))
  go_ret
  exact ⟨rfl, (hb1.alloc hb1.size _).trans (hb2.mono (by have := hb1.size; simp; omega))⟩
set_option maxHeartbeats 1000000 in
theorem wb_size2 (a : Option Addr) (cap : Nat) (bs : List Bool) (hn : bs.length ≤ 300) (hq : ¬ bs.length % 2 ^ 2 = 0) (W : World) (hr : BRow W a bs) :
    Calls Try.prog 6 #[.int .i64 2, .slice a bs.length cap] W fun e w' => e = .returned (.bool true) ∧ Below W.heap.size W w' := by
  have h1 : ¬ (300 : Int) < (bs.length : Int) := by omega
  have HB := wbits_size 2 (by decide) a cap bs (by omega) hq W hr
  have AW := awake9
  obtain ⟨m, hm⟩ : ∃ m : Nat, bs.length % 4 = m := ⟨_, rfl⟩
  have h3 : (bs.length : Int).tmod 4 = (m : Int) := by rw [Int.tmod_eq_emod_of_nonneg (by omega), ← hm]; simp
  have h4 : ¬ (m : Int) = 0 := by rw [show (2 : Nat) ^ 2 = 4 by decide, hm] at hq; omega
  clear hr hq hm
  go_enter Try.func6, Try.ntmps6
  go_wp2_with (first | (go_at_call 22; refine HB.mono ?_; rintro e w1 ⟨rfl, hb1⟩) | (go_at_call 7; refine (AW.go _).mono ?_; rintro e w2 ⟨rfl, hb2⟩))
  go_ret
  exact ⟨rfl, (hb1.alloc hb1.size _).trans (hb2.mono (by have := hb1.size; simp; omega))⟩
set_option maxHeartbeats 1000000 in
theorem wb_size3 (a : Option Addr) (cap : Nat) (bs : List Bool) (hn : bs.length ≤ 300) (hq : ¬ bs.length % 2 ^ 3 = 0) (W : World) (hr : BRow W a bs) :
    Calls Try.prog 6 #[.int .i64 3, .slice a bs.length cap] W fun e w' => e = .returned (.bool true) ∧ Below W.heap.size W w' := by
  have h1 : ¬ (300 : Int) < (bs.length : Int) := by omega
  have HB := wbits_size 3 (by decide) a cap bs (by omega) hq W hr
  have AW := awake9
  obtain ⟨m, hm⟩ : ∃ m : Nat, bs.length % 8 = m := ⟨_, rfl⟩
  have h3 : (bs.length : Int).tmod 8 = (m : Int) := by rw [Int.tmod_eq_emod_of_nonneg (by omega), ← hm]; simp
  have h4 : ¬ (m : Int) = 0 := by rw [show (2 : Nat) ^ 3 = 8 by decide, hm] at hq; omega
  clear hr hq hm
  go_enter Try.func6, Try.ntmps6
  go_wp2_with (first | (go_at_call 22; refine HB.mono ?_; rintro e w1 ⟨rfl, hb1⟩) | (go_at_call 7; refine (AW.go _).mono ?_; rintro e w2 ⟨rfl, hb2⟩))
  go_ret
  exact ⟨rfl, (hb1.alloc hb1.size _).trans (hb2.mono (by have := hb1.size; simp; omega))⟩
set_option maxHeartbeats 1000000 in
theorem wb_size4 (a : Option Addr) (cap : Nat) (bs : List Bool) (hn : bs.length ≤ 300) (hq : ¬ bs.length % 2 ^ 4 = 0) (W : World) (hr : BRow W a bs) :
    Calls Try.prog 6 #[.int .i64 4, .slice a bs.length cap] W fun e w' => e = .returned (.bool true) ∧ Below W.heap.size W w' := by
  have h1 : ¬ (300 : Int) < (bs.length : Int) := by omega
  have HB := wbits_size 4 (by decide) a cap bs (by omega) hq W hr
  have AW := awake9
  obtain ⟨m, hm⟩ : ∃ m : Nat, bs.length % 16 = m := ⟨_, rfl⟩
  have h3 : (bs.length : Int).tmod 16 = (m : Int) := by rw [Int.tmod_eq_emod_of_nonneg (by omega), ← hm]; simp
  have h4 : ¬ (m : Int) = 0 := by rw [show (2 : Nat) ^ 4 = 16 by decide, hm] at hq; omega
  clear hr hq hm
  go_enter Try.func6, Try.ntmps6
  go_wp2_with (first | (go_at_call 22; refine HB.mono ?_; rintro e w1 ⟨rfl, hb1⟩) | (go_at_call 7; refine (AW.go _).mono ?_; rintro e w2 ⟨rfl, hb2⟩))
  go_ret
  exact ⟨rfl, (hb1.alloc hb1.size _).trans (hb2.mono (by have := hb1.size; simp; omega))⟩
set_option maxHeartbeats 1000000 in
theorem wb_size5 (a : Option Addr) (cap : Nat) (bs : List Bool) (hn : bs.length ≤ 300) (hq : ¬ bs.length % 2 ^ 5 = 0) (W : World) (hr : BRow W a bs) :
    Calls Try.prog 6 #[.int .i64 5, .slice a bs.length cap] W fun e w' => e = .returned (.bool true) ∧ Below W.heap.size W w' := by
  have h1 : ¬ (300 : Int) < (bs.length : Int) := by omega
  have HB := wbits_size 5 (by decide) a cap bs (by omega) hq W hr
  have AW := awake9
  obtain ⟨m, hm⟩ : ∃ m : Nat, bs.length % 32 = m := ⟨_, rfl⟩
  have h3 : (bs.length : Int).tmod 32 = (m : Int) := by rw [Int.tmod_eq_emod_of_nonneg (by omega), ← hm]; simp
  have h4 : ¬ (m : Int) = 0 := by rw [show (2 : Nat) ^ 5 = 32 by decide, hm] at hq; omega
  clear hr hq hm
  go_enter Try.func6, Try.ntmps6
  go_wp2_with (first | (go_at_call 22; refine HB.mono ?_; rintro e w1 ⟨rfl, hb1⟩) | (go_at_call 7; refine (AW.go _).mono ?_; rintro e w2 ⟨rfl, hb2⟩))
  go_ret
  exact ⟨rfl, (hb1.alloc hb1.size _).trans (hb2.mono (by have := hb1.size; simp; omega))⟩
set_option maxHeartbeats 1000000 in
theorem wb_size6 (a : Option Addr) (cap : Nat) (bs : List Bool) (hn : bs.length ≤ 300) (hq : ¬ bs.length % 2 ^ 6 = 0) (W : World) (hr : BRow W a bs) :
    Calls Try.prog 6 #[.int .i64 6, .slice a bs.length cap] W fun e w' => e = .returned (.bool true) ∧ Below W.heap.size W w' := by
  have h1 : ¬ (300 : Int) < (bs.length : Int) := by omega
  have HB := wbits_size 6 (by decide) a cap bs (by omega) hq W hr
  have AW := awake9
  obtain ⟨m, hm⟩ : ∃ m : Nat, bs.length % 64 = m := ⟨_, rfl⟩
  have h3 : (bs.length : Int).tmod 64 = (m : Int) := by rw [Int.tmod_eq_emod_of_nonneg (by omega), ← hm]; simp
  have h4 : ¬ (m : Int) = 0 := by rw [show (2 : Nat) ^ 6 = 64 by decide, hm] at hq; omega
  clear hr hq hm
  go_enter Try.func6, Try.ntmps6
  go_wp2_with (first | (go_at_call 22; refine HB.mono ?_; rintro e w1 ⟨rfl, hb1⟩) | (go_at_call 7; refine (AW.go _).mono ?_; rintro e w2 ⟨rfl, hb2⟩))
  go_ret
  exact ⟨rfl, (hb1.alloc hb1.size _).trans (hb2.mono (by have := hb1.size; simp; omega))⟩
set_option maxHeartbeats 1000000 in
theorem wb_size7 (a : Option Addr) (cap : Nat) (bs : List Bool) (hn : bs.length ≤ 300) (hq : ¬ bs.length % 2 ^ 7 = 0) (W : World) (hr : BRow W a bs) :
    Calls Try.prog 6 #[.int .i64 7, .slice a bs.length cap] W fun e w' => e = .returned (.bool true) ∧ Below W.heap.size W w' := by
  have h1 : ¬ (300 : Int) < (bs.length : Int) := by omega
  have HB := wbits_size 7 (by decide) a cap bs (by omega) hq W hr
  have AW := awake9
  obtain ⟨m, hm⟩ : ∃ m : Nat, bs.length % 128 = m := ⟨_, rfl⟩
  have h3 : (bs.length : Int).tmod 128 = (m : Int) := by rw [Int.tmod_eq_emod_of_nonneg (by omega), ← hm]; simp
  have h4 : ¬ (m : Int) = 0 := by rw [show (2 : Nat) ^ 7 = 128 by decide, hm] at hq; omega
  clear hr hq hm
  go_enter Try.func6, Try.ntmps6
  go_wp2_with (first | (go_at_call 22; refine HB.mono ?_; rintro e w1 ⟨rfl, hb1⟩) | (go_at_call 7; refine (AW.go _).mono ?_; rintro e w2 ⟨rfl, hb2⟩))
  go_ret
  exact ⟨rfl, (hb1.alloc hb1.size _).trans (hb2.mono (by have := hb1.size; simp; omega))⟩
end Go.Proofs.Ytflkchhdgiojgaa
