/- Contract of tower.joined over the seat's translation. -/
import Derived.Test.YtcejppibcemdeaaPTwC
import Derived.Deep.QuietTactic
import Derived.BigQuiet
namespace Go.Proofs.Ytcejppibcemdeaa
open Go.RowKit
open Tw (px)

/-- The block b holds the products of a word with each element of level 2. -/
def Row16 (p : Nat → Nat) (b : Nat) (w : World) : Prop := ∀ i, i < 16 → w.cell? ⟨b, i, none⟩ = some (.int .u64 (p i : Nat))

theorem i_and15 (b : Nat) (h : b < 2 ^ 64) : bits .and .u64 (b : Int) 15 = ((b % 16 : Nat) : Int) := by
  have := u64_and_nat b 15 h (by decide)
  rw [show b &&& 15 = b % 16 from Nat.and_two_pow_sub_one_eq_mod b 4] at this
  exact this

set_option maxHeartbeats 400000 in
theorem joined_low (l : Int) (hl : l ≤ 2) (p : Nat → Nat) (bk b : Nat) (h : b < 2 ^ 64) (w : World) (hr : Row16 p bk w) :
    Calls Try.prog 78 #[.int .i64 l, .pointer (some ⟨bk, 0, none⟩), .int .u64 (b : Int)] w fun e w' => e = .returned (.int .u64 (p (b % 16) : Nat)) ∧ w' = w := by
  have f1 := i_and15 b h
  have hc : b % 16 < 16 := Nat.mod_lt _ (by decide)
  have f2 := hr (b % 16) hc
  clear hr
  generalize b % 16 = c at *
  go_enter Try.func78, Try.ntmps78
  go_wp2
  go_ret
  exact ⟨rfl, rfl⟩

set_option maxHeartbeats 400000 in
theorem joined3_core (p : Nat → Nat) (bk b c d q r : Nat) (w : World) (f1 : bits .and .u64 (b : Int) 15 = (c : Int)) (f2 : bits .and .u64 ((b : Int) / 16) 15 = (d : Int)) (hc : c < 16) (hd : d < 16) (c1 : w.cell? ⟨bk, c, none⟩ = some (.int .u64 (p c : Nat))) (c2 : w.cell? ⟨bk, d, none⟩ = some (.int .u64 (p d : Nat))) (H : Hid (∀ W, Calls Try.prog 83 #[.int .u64 (p d : Int)] W fun e w' => e = .returned (.int .u64 (q : Nat)) ∧ w' = W)) (f3 : bits .xor .u64 (p c : Int) (q : Int) = (r : Int)) :
    Calls Try.prog 78 #[.int .i64 3, .pointer (some ⟨bk, 0, none⟩), .int .u64 (b : Int)] w fun e w' => e = .returned (.int .u64 (r : Nat)) ∧ ∃ k, w' = w.drewN k := by
  generalize p c = pc at *
  generalize p d = pd at *
  go_enter Try.func78, Try.ntmps78
  go_wp2
  go_quiet ((go_at_call 83; exact Calls.quiet_of_same (H.out _)))
  go_wp2
  go_ret
  exact ⟨rfl, _, rfl⟩

theorem x_nat (a b : Nat) (ha : a < 2 ^ 64) (hb : b < 2 ^ 64) : bits .xor .u64 (a : Int) (b : Int) = ((a ^^^ b : Nat) : Int) := u64_xor_nat a b ha hb
theorem px_left (a b n : Nat) : px a n ^^^ px b n = px (a ^^^ b) n := by rw [Tw.px_comm a, Tw.px_comm b, Tw.px_comm (a ^^^ b), Tw.px_lin n a b]
/-- The lower and the upper half of a number of 2 m bits. -/
theorem halves (m b : Nat) : (b % 2 ^ m) ^^^ (((b >>> m) % 2 ^ m) <<< m) = b % 2 ^ (2 * m) := by
  apply Nat.eq_of_testBit_eq
  intro i
  rw [Nat.testBit_xor, Nat.testBit_mod_two_pow, Nat.testBit_shiftLeft, Nat.testBit_mod_two_pow, Nat.testBit_mod_two_pow, Nat.testBit_shiftRight]
  by_cases h1 : i < m
  · simp [h1, show ¬ m ≤ i by omega, show i < 2 * m by omega]
  · by_cases h2 : i < 2 * m
    · simp [h1, h2, show m ≤ i by omega, show i - m < m by omega, show m + (i - m) = i by omega]
    · simp [h1, h2, show ¬ i - m < m by omega]
theorem px_top (j g m : Nat) (hg : g = Tw.enc 6 (Tw.gk j 6)) (h : ∀ i, i < m → Tw.enc 6 (Tw.laneX j 6 (Tw.dec 6 (2 ^ i))) = (2 ^ i) <<< m) (x : Nat) (hx : x < 2 ^ m) : px g x = x <<< m := by
  refine Tw.lin_ext (f := px g) (g := fun w => w <<< m) (Tw.px_lin g) (Tw.Lin.id.shl m) m ?_ x hx
  intro i hi
  rw [Tw.px_lane j g hg]
  exact h i hi
theorem comb3 (b : Nat) : (b % 16) ^^^ px 16 ((b >>> 4) % 16) = b % 256 := by
  rw [px_top 3 16 4 (by decide +kernel) (by decide +kernel) _ (Nat.mod_lt _ (by decide))]
  exact halves 4 b
theorem comb4 (b : Nat) : (b % 2 ^ 8) ^^^ px 256 ((b >>> 8) % 2 ^ 8) = b % 2 ^ 16 := by
  rw [px_top 4 256 8 (by decide +kernel) (by decide +kernel) _ (Nat.mod_lt _ (by decide))]
  exact halves 8 b
theorem comb5 (b : Nat) : (b % 2 ^ 16) ^^^ px 65536 ((b >>> 16) % 2 ^ 16) = b % 2 ^ 32 := by
  rw [px_top 5 65536 16 (by decide +kernel) (by decide +kernel) _ (Nat.mod_lt _ (by decide))]
  exact halves 16 b
theorem comb6 (b : Nat) : (b % 2 ^ 32) ^^^ px 4294967296 ((b >>> 32) % 2 ^ 32) = b % 2 ^ 64 := by
  rw [px_top 6 4294967296 32 (by decide +kernel) (by decide +kernel) _ (Nat.mod_lt _ (by decide))]
  exact halves 32 b
theorem px_swap (g x n : Nat) : px g (px x n) = px (px g x) n := (Tw.px_assoc g x n).symm

theorem joined3 (n bk b : Nat) (h : b < 2 ^ 64) (w : World) (hr : Row16 (fun i => px i n) bk w) :
    Calls Try.prog 78 #[.int .i64 3, .pointer (some ⟨bk, 0, none⟩), .int .u64 (b : Int)] w fun e w' => e = .returned (.int .u64 (px (b % 2 ^ 8) n : Nat)) ∧ ∃ k, w' = w.drewN k := by
  have hs : b >>> 4 < 2 ^ 64 := Nat.lt_of_le_of_lt (by rw [Nat.shiftRight_eq_div_pow]; exact Nat.div_le_self _ _) h
  have f2 : bits .and .u64 ((b : Int) / 16) 15 = (((b >>> 4) % 16 : Nat) : Int) := by
    rw [← i_and15 _ hs, Nat.shiftRight_eq_div_pow]
    rfl
  have hc : b % 16 < 16 := Nat.mod_lt _ (by decide)
  have hd : (b >>> 4) % 16 < 16 := Nat.mod_lt _ (by decide)
  refine joined3_core (fun i => px i n) bk b (b % 16) ((b >>> 4) % 16) (px 16 (px ((b >>> 4) % 16) n)) (px (b % 2 ^ 8) n) w (i_and15 b h) f2 hc hd (hr _ hc) (hr _ hd) (t3_any _ (Tw.px_lt _ _)) ?_
  show bits .xor .u64 ((px (b % 16) n : Nat) : Int) _ = _
  rw [x_nat _ _ (Tw.px_lt _ _) (Tw.px_lt _ _), px_swap, px_left, comb3]

theorem Row16.drewN {p : Nat → Nat} {b : Nat} {w : World} (h : Row16 p b w) (k : Nat) : Row16 p b (w.drewN k) := fun i hi => by
  have := h i hi
  simpa [go_sem] using this

set_option maxHeartbeats 400000 in
theorem joined4_core (bk b c lo hi q r : Nat) (w : World) (f1 : (b : Int) / 256 = (c : Int)) (H1 : Hid (Calls Try.prog 78 #[.int .i64 3, .pointer (some ⟨bk, 0, none⟩), .int .u64 (b : Int)] w fun e w' => e = .returned (.int .u64 (lo : Nat)) ∧ ∃ k, w' = w.drewN k)) (H2 : Hid (∀ k, Calls Try.prog 78 #[.int .i64 3, .pointer (some ⟨bk, 0, none⟩), .int .u64 (c : Int)] (w.drewN k) fun e w' => e = .returned (.int .u64 (hi : Nat)) ∧ ∃ k', w' = (w.drewN k).drewN k')) (H3 : Hid (∀ W, Calls Try.prog 84 #[.int .i64 4, .int .u64 (hi : Int)] W fun e w' => e = .returned (.int .u64 (q : Nat)) ∧ w' = W)) (f3 : bits .xor .u64 (lo : Int) (q : Int) = (r : Int)) :
    Calls Try.prog 78 #[.int .i64 4, .pointer (some ⟨bk, 0, none⟩), .int .u64 (b : Int)] w fun e w' => e = .returned (.int .u64 (r : Nat)) ∧ ∃ k, w' = w.drewN k := by
  have F1 : Hid ((b : Int) / 256 = (c : Int)) := f1
  clear f1
  go_enter Try.func78, Try.ntmps78
  go_wp2_with fail
  refine H1.out.mono ?_
  rintro e w1 ⟨rfl, k1, rfl⟩
  go_wp2_with fail
  rw [F1.out]
  refine (H2.out _).mono ?_
  rintro e w2 ⟨rfl, k2, rfl⟩
  go_wp2_with fail
  refine (H3.out _).mono ?_
  rintro e w3 ⟨rfl, rfl⟩
  go_wp2
  go_ret
  exact ⟨rfl, k1 + k2, rfl⟩
theorem joined4 (n bk b : Nat) (h : b < 2 ^ 64) (w : World) (hr : Row16 (fun i => px i n) bk w) :
    Calls Try.prog 78 #[.int .i64 4, .pointer (some ⟨bk, 0, none⟩), .int .u64 (b : Int)] w fun e w' => e = .returned (.int .u64 (px (b % 2 ^ 16) n : Nat)) ∧ ∃ k, w' = w.drewN k := by
  have hs : b >>> 8 < 2 ^ 64 := Nat.lt_of_le_of_lt (by rw [Nat.shiftRight_eq_div_pow]; exact Nat.div_le_self _ _) h
  have f1 : (b : Int) / 256 = ((b >>> 8 : Nat) : Int) := by
    rw [Nat.shiftRight_eq_div_pow]
    rfl
  refine joined4_core bk b (b >>> 8) (px (b % 2 ^ 8) n) (px ((b >>> 8) % 2 ^ 8) n) (px 256 (px ((b >>> 8) % 2 ^ 8) n)) (px (b % 2 ^ 16) n) w f1 (joined3 n bk b h w hr) (fun k => joined3 n bk _ hs (w.drewN k) (hr.drewN k)) (tx_any 4 _ (Tw.px_lt _ _)) ?_
  rw [x_nat _ _ (Tw.px_lt _ _) (Tw.px_lt _ _), px_swap, px_left, comb4]

set_option maxHeartbeats 400000 in
theorem joined5_core (bk b c lo hi q r : Nat) (w : World) (f1 : (b : Int) / 65536 = (c : Int)) (H1 : Hid (Calls Try.prog 78 #[.int .i64 4, .pointer (some ⟨bk, 0, none⟩), .int .u64 (b : Int)] w fun e w' => e = .returned (.int .u64 (lo : Nat)) ∧ ∃ k, w' = w.drewN k)) (H2 : Hid (∀ k, Calls Try.prog 78 #[.int .i64 4, .pointer (some ⟨bk, 0, none⟩), .int .u64 (c : Int)] (w.drewN k) fun e w' => e = .returned (.int .u64 (hi : Nat)) ∧ ∃ k', w' = (w.drewN k).drewN k')) (H3 : Hid (∀ W, Calls Try.prog 84 #[.int .i64 5, .int .u64 (hi : Int)] W fun e w' => e = .returned (.int .u64 (q : Nat)) ∧ w' = W)) (f3 : bits .xor .u64 (lo : Int) (q : Int) = (r : Int)) :
    Calls Try.prog 78 #[.int .i64 5, .pointer (some ⟨bk, 0, none⟩), .int .u64 (b : Int)] w fun e w' => e = .returned (.int .u64 (r : Nat)) ∧ ∃ k, w' = w.drewN k := by
  have F1 : Hid ((b : Int) / 65536 = (c : Int)) := f1
  clear f1
  go_enter Try.func78, Try.ntmps78
  go_wp2_with fail
  refine H1.out.mono ?_
  rintro e w1 ⟨rfl, k1, rfl⟩
  go_wp2_with fail
  rw [F1.out]
  refine (H2.out _).mono ?_
  rintro e w2 ⟨rfl, k2, rfl⟩
  go_wp2_with fail
  refine (H3.out _).mono ?_
  rintro e w3 ⟨rfl, rfl⟩
  go_wp2
  go_ret
  exact ⟨rfl, k1 + k2, rfl⟩
theorem joined5 (n bk b : Nat) (h : b < 2 ^ 64) (w : World) (hr : Row16 (fun i => px i n) bk w) :
    Calls Try.prog 78 #[.int .i64 5, .pointer (some ⟨bk, 0, none⟩), .int .u64 (b : Int)] w fun e w' => e = .returned (.int .u64 (px (b % 2 ^ 32) n : Nat)) ∧ ∃ k, w' = w.drewN k := by
  have hs : b >>> 16 < 2 ^ 64 := Nat.lt_of_le_of_lt (by rw [Nat.shiftRight_eq_div_pow]; exact Nat.div_le_self _ _) h
  have f1 : (b : Int) / 65536 = ((b >>> 16 : Nat) : Int) := by
    rw [Nat.shiftRight_eq_div_pow]
    rfl
  refine joined5_core bk b (b >>> 16) (px (b % 2 ^ 16) n) (px ((b >>> 16) % 2 ^ 16) n) (px 65536 (px ((b >>> 16) % 2 ^ 16) n)) (px (b % 2 ^ 32) n) w f1 (joined4 n bk b h w hr) (fun k => joined4 n bk _ hs (w.drewN k) (hr.drewN k)) (tx_any 5 _ (Tw.px_lt _ _)) ?_
  rw [x_nat _ _ (Tw.px_lt _ _) (Tw.px_lt _ _), px_swap, px_left, comb5]

set_option maxHeartbeats 400000 in
theorem joined6_core (bk b c lo hi q r : Nat) (w : World) (f1 : (b : Int) / 4294967296 = (c : Int)) (H1 : Hid (Calls Try.prog 78 #[.int .i64 5, .pointer (some ⟨bk, 0, none⟩), .int .u64 (b : Int)] w fun e w' => e = .returned (.int .u64 (lo : Nat)) ∧ ∃ k, w' = w.drewN k)) (H2 : Hid (∀ k, Calls Try.prog 78 #[.int .i64 5, .pointer (some ⟨bk, 0, none⟩), .int .u64 (c : Int)] (w.drewN k) fun e w' => e = .returned (.int .u64 (hi : Nat)) ∧ ∃ k', w' = (w.drewN k).drewN k')) (H3 : Hid (∀ W, Calls Try.prog 84 #[.int .i64 6, .int .u64 (hi : Int)] W fun e w' => e = .returned (.int .u64 (q : Nat)) ∧ w' = W)) (f3 : bits .xor .u64 (lo : Int) (q : Int) = (r : Int)) :
    Calls Try.prog 78 #[.int .i64 6, .pointer (some ⟨bk, 0, none⟩), .int .u64 (b : Int)] w fun e w' => e = .returned (.int .u64 (r : Nat)) ∧ ∃ k, w' = w.drewN k := by
  have F1 : Hid ((b : Int) / 4294967296 = (c : Int)) := f1
  clear f1
  go_enter Try.func78, Try.ntmps78
  go_wp2_with fail
  refine H1.out.mono ?_
  rintro e w1 ⟨rfl, k1, rfl⟩
  go_wp2_with fail
  rw [F1.out]
  refine (H2.out _).mono ?_
  rintro e w2 ⟨rfl, k2, rfl⟩
  go_wp2_with fail
  refine (H3.out _).mono ?_
  rintro e w3 ⟨rfl, rfl⟩
  go_wp2
  go_ret
  exact ⟨rfl, k1 + k2, rfl⟩
theorem joined6 (n bk b : Nat) (h : b < 2 ^ 64) (w : World) (hr : Row16 (fun i => px i n) bk w) :
    Calls Try.prog 78 #[.int .i64 6, .pointer (some ⟨bk, 0, none⟩), .int .u64 (b : Int)] w fun e w' => e = .returned (.int .u64 (px (b % 2 ^ 64) n : Nat)) ∧ ∃ k, w' = w.drewN k := by
  have hs : b >>> 32 < 2 ^ 64 := Nat.lt_of_le_of_lt (by rw [Nat.shiftRight_eq_div_pow]; exact Nat.div_le_self _ _) h
  have f1 : (b : Int) / 4294967296 = ((b >>> 32 : Nat) : Int) := by
    rw [Nat.shiftRight_eq_div_pow]
    rfl
  refine joined6_core bk b (b >>> 32) (px (b % 2 ^ 32) n) (px ((b >>> 32) % 2 ^ 32) n) (px 4294967296 (px ((b >>> 32) % 2 ^ 32) n)) (px (b % 2 ^ 64) n) w f1 (joined5 n bk b h w hr) (fun k => joined5 n bk _ hs (w.drewN k) (hr.drewN k)) (tx_any 6 _ (Tw.px_lt _ _)) ?_
  rw [x_nat _ _ (Tw.px_lt _ _) (Tw.px_lt _ _), px_swap, px_left, comb6]
end Go.Proofs.Ytcejppibcemdeaa
