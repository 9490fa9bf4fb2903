/- Contract of tower.joined over the seat's translation. -/
import Derived.Test.YtnecjkdlmecgdaaPTwC
import Derived.Deep.QuietTactic
import Derived.BigQuiet
import Derived.Shelf.Small.Bits
import Derived.Shelf.Strconv.Itoa0
import Derived.Test.YtnecjkdlmecgdaaProg
import Derived.Deep.RegionWith
import Derived.Deep.DeepCutAuto
import Derived.Deep.RegionHeld3
namespace Go.Proofs.Ytnecjkdlmecgdaa
open Go.RowKit
open Tw (px)

/-- The block b holds the products of a word with each element of level 2. -/
def Row16 (p : Nat → Nat) (b : Nat) (w : World) : Prop := ∀ i, i < 16 → w.cell? ⟨b, i, none⟩ = some (.int .u64 (p i : Nat))

theorem i_and15 (b : Nat) (h : b < 2 ^ 64) : bits .and .u64 (b : Int) 15 = ((b % 16 : Nat) : Int) := by
  have := u64_and_nat b 15 h (by decide)
  rw [show b &&& 15 = b % 16 from Nat.and_two_pow_sub_one_eq_mod b 4] at this
  exact this

set_option maxHeartbeats 400000 in
theorem joined_low (l : Int) (hl : l ≤ 2) (p : Nat → Nat) (bk b : Nat) (h : b < 2 ^ 64) (w : World) (hr : Row16 p bk w) :
    Calls Try.prog 94 #[.int .i64 l, .pointer (some ⟨bk, 0, none⟩), .int .u64 (b : Int)] w fun e w' => e = .returned (.int .u64 (p (b % 16) : Nat)) ∧ w' = w := by
  have f1 := i_and15 b h
  have hc : b % 16 < 16 := Nat.mod_lt _ (by decide)
  have f2 := hr (b % 16) hc
  clear hr
  generalize b % 16 = c at *
  go_enter Try.func94, Try.ntmps94
  go_wp2
  go_ret
  exact ⟨rfl, rfl⟩

set_option maxHeartbeats 400000 in
theorem joined3_core (p : Nat → Nat) (bk b c d q r : Nat) (w : World) (f1 : bits .and .u64 (b : Int) 15 = (c : Int)) (f2 : bits .and .u64 ((b : Int) / 16) 15 = (d : Int)) (hc : c < 16) (hd : d < 16) (c1 : w.cell? ⟨bk, c, none⟩ = some (.int .u64 (p c : Nat))) (c2 : w.cell? ⟨bk, d, none⟩ = some (.int .u64 (p d : Nat))) (H : Hid (∀ W, Calls Try.prog 99 #[.int .u64 (p d : Int)] W fun e w' => e = .returned (.int .u64 (q : Nat)) ∧ w' = W)) (f3 : bits .xor .u64 (p c : Int) (q : Int) = (r : Int)) :
    Calls Try.prog 94 #[.int .i64 3, .pointer (some ⟨bk, 0, none⟩), .int .u64 (b : Int)] w fun e w' => e = .returned (.int .u64 (r : Nat)) ∧ ∃ k, w' = w.drewN k := by
  generalize p c = pc at *
  generalize p d = pd at *
  go_enter Try.func94, Try.ntmps94
  go_wp2
  go_quiet ((go_at_call 99; exact Calls.quiet_of_same (H.out _)))
  go_wp2
  go_ret
  exact ⟨rfl, _, rfl⟩

theorem x_nat (a b : Nat) (ha : a < 2 ^ 64) (hb : b < 2 ^ 64) : bits .xor .u64 (a : Int) (b : Int) = ((a ^^^ b : Nat) : Int) := u64_xor_nat a b ha hb
theorem px_left (a b n : Nat) : px a n ^^^ px b n = px (a ^^^ b) n := by rw [Tw.px_comm a, Tw.px_comm b, Tw.px_comm (a ^^^ b), Tw.px_lin n a b]
/-- The lower and the upper half of a number of 2 m bits. -/
theorem halves (m b : Nat) : (b % 2 ^ m) ^^^ (((b >>> m) % 2 ^ m) <<< m) = b % 2 ^ (2 * m) := by
  apply Nat.eq_of_testBit_eq
  intro i
  rw [Nat.testBit_xor, Nat.testBit_mod_two_pow, Nat.testBit_shiftLeft, Nat.testBit_mod_two_pow, Nat.testBit_mod_two_pow, Nat.testBit_shiftRight]
  by_cases h1 : i < m
  · simp [h1, show ¬ m ≤ i by omega, show i < 2 * m by omega]
  · by_cases h2 : i < 2 * m
    · simp [h1, h2, show m ≤ i by omega, show i - m < m by omega, show m + (i - m) = i by omega]
    · simp [h1, h2, show ¬ i - m < m by omega]
theorem px_top (j g m : Nat) (hg : g = Tw.enc 6 (Tw.gk j 6)) (h : ∀ i, i < m → Tw.enc 6 (Tw.laneX j 6 (Tw.dec 6 (2 ^ i))) = (2 ^ i) <<< m) (x : Nat) (hx : x < 2 ^ m) : px g x = x <<< m := by
  refine Tw.lin_ext (f := px g) (g := fun w => w <<< m) (Tw.px_lin g) (Tw.Lin.id.shl m) m ?_ x hx
  intro i hi
  rw [Tw.px_lane j g hg]
  exact h i hi
theorem comb3 (b : Nat) : (b % 16) ^^^ px 16 ((b >>> 4) % 16) = b % 256 := by
  rw [px_top 3 16 4 (by decide +kernel) (by decide +kernel) _ (Nat.mod_lt _ (by decide))]
  exact halves 4 b
theorem comb4 (b : Nat) : (b % 2 ^ 8) ^^^ px 256 ((b >>> 8) % 2 ^ 8) = b % 2 ^ 16 := by
  rw [px_top 4 256 8 (by decide +kernel) (by decide +kernel) _ (Nat.mod_lt _ (by decide))]
  exact halves 8 b
theorem comb5 (b : Nat) : (b % 2 ^ 16) ^^^ px 65536 ((b >>> 16) % 2 ^ 16) = b % 2 ^ 32 := by
  rw [px_top 5 65536 16 (by decide +kernel) (by decide +kernel) _ (Nat.mod_lt _ (by decide))]
  exact halves 16 b
theorem comb6 (b : Nat) : (b % 2 ^ 32) ^^^ px 4294967296 ((b >>> 32) % 2 ^ 32) = b % 2 ^ 64 := by
  rw [px_top 6 4294967296 32 (by decide +kernel) (by decide +kernel) _ (Nat.mod_lt _ (by decide))]
  exact halves 32 b
theorem px_swap (g x n : Nat) : px g (px x n) = px (px g x) n := (Tw.px_assoc g x n).symm

theorem joined3 (n bk b : Nat) (h : b < 2 ^ 64) (w : World) (hr : Row16 (fun i => px i n) bk w) :
    Calls Try.prog 94 #[.int .i64 3, .pointer (some ⟨bk, 0, none⟩), .int .u64 (b : Int)] w fun e w' => e = .returned (.int .u64 (px (b % 2 ^ 8) n : Nat)) ∧ ∃ k, w' = w.drewN k := by
  have hs : b >>> 4 < 2 ^ 64 := Nat.lt_of_le_of_lt (by rw [Nat.shiftRight_eq_div_pow]; exact Nat.div_le_self _ _) h
  have f2 : bits .and .u64 ((b : Int) / 16) 15 = (((b >>> 4) % 16 : Nat) : Int) := by
    rw [← i_and15 _ hs, Nat.shiftRight_eq_div_pow]
    rfl
  have hc : b % 16 < 16 := Nat.mod_lt _ (by decide)
  have hd : (b >>> 4) % 16 < 16 := Nat.mod_lt _ (by decide)
  refine joined3_core (fun i => px i n) bk b (b % 16) ((b >>> 4) % 16) (px 16 (px ((b >>> 4) % 16) n)) (px (b % 2 ^ 8) n) w (i_and15 b h) f2 hc hd (hr _ hc) (hr _ hd) (t3_any _ (Tw.px_lt _ _)) ?_
  show bits .xor .u64 ((px (b % 16) n : Nat) : Int) _ = _
  rw [x_nat _ _ (Tw.px_lt _ _) (Tw.px_lt _ _), px_swap, px_left, comb3]

theorem Row16.drewN {p : Nat → Nat} {b : Nat} {w : World} (h : Row16 p b w) (k : Nat) : Row16 p b (w.drewN k) := fun i hi => by
  have := h i hi
  simpa [go_sem] using this

set_option maxHeartbeats 400000 in
theorem joined4_core (bk b c lo hi q r : Nat) (w : World) (f1 : (b : Int) / 256 = (c : Int)) (H1 : Hid (Calls Try.prog 94 #[.int .i64 3, .pointer (some ⟨bk, 0, none⟩), .int .u64 (b : Int)] w fun e w' => e = .returned (.int .u64 (lo : Nat)) ∧ ∃ k, w' = w.drewN k)) (H2 : Hid (∀ k, Calls Try.prog 94 #[.int .i64 3, .pointer (some ⟨bk, 0, none⟩), .int .u64 (c : Int)] (w.drewN k) fun e w' => e = .returned (.int .u64 (hi : Nat)) ∧ ∃ k', w' = (w.drewN k).drewN k')) (H3 : Hid (∀ W, Calls Try.prog 102 #[.int .i64 4, .int .u64 (hi : Int)] W fun e w' => e = .returned (.int .u64 (q : Nat)) ∧ w' = W)) (f3 : bits .xor .u64 (lo : Int) (q : Int) = (r : Int)) :
    Calls Try.prog 94 #[.int .i64 4, .pointer (some ⟨bk, 0, none⟩), .int .u64 (b : Int)] w fun e w' => e = .returned (.int .u64 (r : Nat)) ∧ ∃ k, w' = w.drewN k := by
  have F1 : Hid ((b : Int) / 256 = (c : Int)) := f1
  clear f1
  go_enter Try.func94, Try.ntmps94
  go_wp2_with fail
  refine H1.out.mono ?_
  rintro e w1 ⟨rfl, k1, rfl⟩
  go_wp2_with fail
  rw [F1.out]
  refine (H2.out _).mono ?_
  rintro e w2 ⟨rfl, k2, rfl⟩
  go_wp2_with fail
  refine (H3.out _).mono ?_
  rintro e w3 ⟨rfl, rfl⟩
  go_wp2
  go_ret
  exact ⟨rfl, k1 + k2, rfl⟩
theorem joined4 (n bk b : Nat) (h : b < 2 ^ 64) (w : World) (hr : Row16 (fun i => px i n) bk w) :
    Calls Try.prog 94 #[.int .i64 4, .pointer (some ⟨bk, 0, none⟩), .int .u64 (b : Int)] w fun e w' => e = .returned (.int .u64 (px (b % 2 ^ 16) n : Nat)) ∧ ∃ k, w' = w.drewN k := by
  have hs : b >>> 8 < 2 ^ 64 := Nat.lt_of_le_of_lt (by rw [Nat.shiftRight_eq_div_pow]; exact Nat.div_le_self _ _) h
  have f1 : (b : Int) / 256 = ((b >>> 8 : Nat) : Int) := by
    rw [Nat.shiftRight_eq_div_pow]
    rfl
  refine joined4_core bk b (b >>> 8) (px (b % 2 ^ 8) n) (px ((b >>> 8) % 2 ^ 8) n) (px 256 (px ((b >>> 8) % 2 ^ 8) n)) (px (b % 2 ^ 16) n) w f1 (joined3 n bk b h w hr) (fun k => joined3 n bk _ hs (w.drewN k) (hr.drewN k)) (tx_any 4 _ (Tw.px_lt _ _)) ?_
  rw [x_nat _ _ (Tw.px_lt _ _) (Tw.px_lt _ _), px_swap, px_left, comb4]

set_option maxHeartbeats 400000 in
theorem joined5_core (bk b c lo hi q r : Nat) (w : World) (f1 : (b : Int) / 65536 = (c : Int)) (H1 : Hid (Calls Try.prog 94 #[.int .i64 4, .pointer (some ⟨bk, 0, none⟩), .int .u64 (b : Int)] w fun e w' => e = .returned (.int .u64 (lo : Nat)) ∧ ∃ k, w' = w.drewN k)) (H2 : Hid (∀ k, Calls Try.prog 94 #[.int .i64 4, .pointer (some ⟨bk, 0, none⟩), .int .u64 (c : Int)] (w.drewN k) fun e w' => e = .returned (.int .u64 (hi : Nat)) ∧ ∃ k', w' = (w.drewN k).drewN k')) (H3 : Hid (∀ W, Calls Try.prog 102 #[.int .i64 5, .int .u64 (hi : Int)] W fun e w' => e = .returned (.int .u64 (q : Nat)) ∧ w' = W)) (f3 : bits .xor .u64 (lo : Int) (q : Int) = (r : Int)) :
    Calls Try.prog 94 #[.int .i64 5, .pointer (some ⟨bk, 0, none⟩), .int .u64 (b : Int)] w fun e w' => e = .returned (.int .u64 (r : Nat)) ∧ ∃ k, w' = w.drewN k := by
  have F1 : Hid ((b : Int) / 65536 = (c : Int)) := f1
  clear f1
  go_enter Try.func94, Try.ntmps94
  go_wp2_with fail
  refine H1.out.mono ?_
  rintro e w1 ⟨rfl, k1, rfl⟩
  go_wp2_with fail
  rw [F1.out]
  refine (H2.out _).mono ?_
  rintro e w2 ⟨rfl, k2, rfl⟩
  go_wp2_with fail
  refine (H3.out _).mono ?_
  rintro e w3 ⟨rfl, rfl⟩
  go_wp2
  go_ret
  exact ⟨rfl, k1 + k2, rfl⟩
theorem joined5 (n bk b : Nat) (h : b < 2 ^ 64) (w : World) (hr : Row16 (fun i => px i n) bk w) :
    Calls Try.prog 94 #[.int .i64 5, .pointer (some ⟨bk, 0, none⟩), .int .u64 (b : Int)] w fun e w' => e = .returned (.int .u64 (px (b % 2 ^ 32) n : Nat)) ∧ ∃ k, w' = w.drewN k := by
  have hs : b >>> 16 < 2 ^ 64 := Nat.lt_of_le_of_lt (by rw [Nat.shiftRight_eq_div_pow]; exact Nat.div_le_self _ _) h
  have f1 : (b : Int) / 65536 = ((b >>> 16 : Nat) : Int) := by
    rw [Nat.shiftRight_eq_div_pow]
    rfl
  refine joined5_core bk b (b >>> 16) (px (b % 2 ^ 16) n) (px ((b >>> 16) % 2 ^ 16) n) (px 65536 (px ((b >>> 16) % 2 ^ 16) n)) (px (b % 2 ^ 32) n) w f1 (joined4 n bk b h w hr) (fun k => joined4 n bk _ hs (w.drewN k) (hr.drewN k)) (tx_any 5 _ (Tw.px_lt _ _)) ?_
  rw [x_nat _ _ (Tw.px_lt _ _) (Tw.px_lt _ _), px_swap, px_left, comb5]

set_option maxHeartbeats 400000 in
theorem joined6_core (bk b c lo hi q r : Nat) (w : World) (f1 : (b : Int) / 4294967296 = (c : Int)) (H1 : Hid (Calls Try.prog 94 #[.int .i64 5, .pointer (some ⟨bk, 0, none⟩), .int .u64 (b : Int)] w fun e w' => e = .returned (.int .u64 (lo : Nat)) ∧ ∃ k, w' = w.drewN k)) (H2 : Hid (∀ k, Calls Try.prog 94 #[.int .i64 5, .pointer (some ⟨bk, 0, none⟩), .int .u64 (c : Int)] (w.drewN k) fun e w' => e = .returned (.int .u64 (hi : Nat)) ∧ ∃ k', w' = (w.drewN k).drewN k')) (H3 : Hid (∀ W, Calls Try.prog 102 #[.int .i64 6, .int .u64 (hi : Int)] W fun e w' => e = .returned (.int .u64 (q : Nat)) ∧ w' = W)) (f3 : bits .xor .u64 (lo : Int) (q : Int) = (r : Int)) :
    Calls Try.prog 94 #[.int .i64 6, .pointer (some ⟨bk, 0, none⟩), .int .u64 (b : Int)] w fun e w' => e = .returned (.int .u64 (r : Nat)) ∧ ∃ k, w' = w.drewN k := by
  have F1 : Hid ((b : Int) / 4294967296 = (c : Int)) := f1
  clear f1
  go_enter Try.func94, Try.ntmps94
  go_wp2_with fail
  refine H1.out.mono ?_
  rintro e w1 ⟨rfl, k1, rfl⟩
  go_wp2_with fail
  rw [F1.out]
  refine (H2.out _).mono ?_
  rintro e w2 ⟨rfl, k2, rfl⟩
  go_wp2_with fail
  refine (H3.out _).mono ?_
  rintro e w3 ⟨rfl, rfl⟩
  go_wp2
  go_ret
  exact ⟨rfl, k1 + k2, rfl⟩
theorem joined6 (n bk b : Nat) (h : b < 2 ^ 64) (w : World) (hr : Row16 (fun i => px i n) bk w) :
    Calls Try.prog 94 #[.int .i64 6, .pointer (some ⟨bk, 0, none⟩), .int .u64 (b : Int)] w fun e w' => e = .returned (.int .u64 (px (b % 2 ^ 64) n : Nat)) ∧ ∃ k, w' = w.drewN k := by
  have hs : b >>> 32 < 2 ^ 64 := Nat.lt_of_le_of_lt (by rw [Nat.shiftRight_eq_div_pow]; exact Nat.div_le_self _ _) h
  have f1 : (b : Int) / 4294967296 = ((b >>> 32 : Nat) : Int) := by
    rw [Nat.shiftRight_eq_div_pow]
    rfl
  refine joined6_core bk b (b >>> 32) (px (b % 2 ^ 32) n) (px ((b >>> 32) % 2 ^ 32) n) (px 4294967296 (px ((b >>> 32) % 2 ^ 32) n)) (px (b % 2 ^ 64) n) w f1 (joined5 n bk b h w hr) (fun k => joined5 n bk _ hs (w.drewN k) (hr.drewN k)) (tx_any 6 _ (Tw.px_lt _ _)) ?_
  rw [x_nat _ _ (Tw.px_lt _ _) (Tw.px_lt _ _), px_swap, px_left, comb6]
end Go.Proofs.Ytnecjkdlmecgdaa

/- Contract of tower.scaled over the seat's translation: a word times an element of a level up to 6. -/
namespace Go.Proofs.Ytnecjkdlmecgdaa
open Go.RowKit
open Tw (px)

/-- How many elements a level has, as a bound. -/
def lim (l : Int) : Nat := if l = 0 then 2 else if l = 1 then 4 else if l = 2 then 16 else if l = 3 then 256 else if l = 4 then 65536 else if l = 5 then 4294967296 else if l = 6 then 18446744073709551616 else 0

theorem joined_all (l : Int) (n bk b : Nat) (hl : l = 0 ∨ l = 1 ∨ l = 2 ∨ l = 3 ∨ l = 4 ∨ l = 5 ∨ l = 6) (hb : b < lim l) (w : World) (hr : Row16 (fun i => px i n) bk w) :
    Calls Try.prog 94 #[.int .i64 l, .pointer (some ⟨bk, 0, none⟩), .int .u64 (b : Int)] w fun e w' => e = .returned (.int .u64 (px b n : Nat)) ∧ ∃ k, w' = w.drewN k := by
  have low : ∀ l : Int, l ≤ 2 → b < 16 → Calls Try.prog 94 #[.int .i64 l, .pointer (some ⟨bk, 0, none⟩), .int .u64 (b : Int)] w fun e w' => e = .returned (.int .u64 (px b n : Nat)) ∧ ∃ k, w' = w.drewN k := by
    intro l hl hb
    refine (joined_low l hl (fun i => px i n) bk b (by omega) w hr).mono ?_
    rintro e w' ⟨rfl, rfl⟩
    rw [Nat.mod_eq_of_lt hb]
    exact ⟨rfl, 0, rfl⟩
  rcases hl with rfl | rfl | rfl | rfl | rfl | rfl | rfl
  · exact low 0 (by decide) (by simp [lim] at hb; omega)
  · exact low 1 (by decide) (by simp [lim] at hb; omega)
  · exact low 2 (by decide) (by simp [lim] at hb; omega)
  · have h := joined3 n bk b (by simp [lim] at hb; omega) w hr
    rwa [Nat.mod_eq_of_lt (by simp [lim] at hb; omega)] at h
  · have h := joined4 n bk b (by simp [lim] at hb; omega) w hr
    rwa [Nat.mod_eq_of_lt (by simp [lim] at hb; omega)] at h
  · have h := joined5 n bk b (by simp [lim] at hb; omega) w hr
    rwa [Nat.mod_eq_of_lt (by simp [lim] at hb; omega)] at h
  · have h := joined6 n bk b (by simp [lim] at hb; omega) w hr
    rwa [Nat.mod_eq_of_lt (by simp [lim] at hb; omega)] at h

theorem row_new (p : Nat → Nat) (W : World) : Row16 p W.heap.size (W.alloc (Obj.cells #[.int .u64 ((p 0 : Nat) : Int), .int .u64 ((p 1 : Nat) : Int), .int .u64 ((p 2 : Nat) : Int), .int .u64 ((p 3 : Nat) : Int), .int .u64 ((p 4 : Nat) : Int), .int .u64 ((p 5 : Nat) : Int), .int .u64 ((p 6 : Nat) : Int), .int .u64 ((p 7 : Nat) : Int), .int .u64 ((p 8 : Nat) : Int), .int .u64 ((p 9 : Nat) : Int), .int .u64 ((p 10 : Nat) : Int), .int .u64 ((p 11 : Nat) : Int), .int .u64 ((p 12 : Nat) : Int), .int .u64 ((p 13 : Nat) : Int), .int .u64 ((p 14 : Nat) : Int), .int .u64 ((p 15 : Nat) : Int)] 123)) := by
  intro i hi
  have e : (W.alloc (Obj.cells #[.int .u64 ((p 0 : Nat) : Int), .int .u64 ((p 1 : Nat) : Int), .int .u64 ((p 2 : Nat) : Int), .int .u64 ((p 3 : Nat) : Int), .int .u64 ((p 4 : Nat) : Int), .int .u64 ((p 5 : Nat) : Int), .int .u64 ((p 6 : Nat) : Int), .int .u64 ((p 7 : Nat) : Int), .int .u64 ((p 8 : Nat) : Int), .int .u64 ((p 9 : Nat) : Int), .int .u64 ((p 10 : Nat) : Int), .int .u64 ((p 11 : Nat) : Int), .int .u64 ((p 12 : Nat) : Int), .int .u64 ((p 13 : Nat) : Int), .int .u64 ((p 14 : Nat) : Int), .int .u64 ((p 15 : Nat) : Int)] 123)).cell? ⟨W.heap.size, i, none⟩ = (#[.int .u64 ((p 0 : Nat) : Int), .int .u64 ((p 1 : Nat) : Int), .int .u64 ((p 2 : Nat) : Int), .int .u64 ((p 3 : Nat) : Int), .int .u64 ((p 4 : Nat) : Int), .int .u64 ((p 5 : Nat) : Int), .int .u64 ((p 6 : Nat) : Int), .int .u64 ((p 7 : Nat) : Int), .int .u64 ((p 8 : Nat) : Int), .int .u64 ((p 9 : Nat) : Int), .int .u64 ((p 10 : Nat) : Int), .int .u64 ((p 11 : Nat) : Int), .int .u64 ((p 12 : Nat) : Int), .int .u64 ((p 13 : Nat) : Int), .int .u64 ((p 14 : Nat) : Int), .int .u64 ((p 15 : Nat) : Int)] : Array Value)[i]? := by simp [go_sem]
  rw [e]
  rcases i with _|_|_|_|_|_|_|_|_|_|_|_|_|_|_|_|i
  all_goals first | rfl | omega

set_option maxHeartbeats 1000000 in
set_option maxRecDepth 100000 in
theorem scaled_core (l : Int) (p : Nat → Nat) (n b r : Nat) (h0 : n ≠ 0) (h1 : b ≠ 0) (h2 : b ≠ 1) (HM : Hid (∀ W, Calls Try.prog 93 #[.int .u64 (n : Int)] W fun e w' => e = .returned (.agg #[.int .u64 ((p 0 : Nat) : Int), .int .u64 ((p 1 : Nat) : Int), .int .u64 ((p 2 : Nat) : Int), .int .u64 ((p 3 : Nat) : Int), .int .u64 ((p 4 : Nat) : Int), .int .u64 ((p 5 : Nat) : Int), .int .u64 ((p 6 : Nat) : Int), .int .u64 ((p 7 : Nat) : Int), .int .u64 ((p 8 : Nat) : Int), .int .u64 ((p 9 : Nat) : Int), .int .u64 ((p 10 : Nat) : Int), .int .u64 ((p 11 : Nat) : Int), .int .u64 ((p 12 : Nat) : Int), .int .u64 ((p 13 : Nat) : Int), .int .u64 ((p 14 : Nat) : Int), .int .u64 ((p 15 : Nat) : Int)]) ∧ Below W.heap.size W w')) (HJ : Hid (∀ (bk : Nat) (W : World), Row16 p bk W → Calls Try.prog 94 #[.int .i64 l, .pointer (some ⟨bk, 0, none⟩), .int .u64 (b : Int)] W fun e w' => e = .returned (.int .u64 (r : Nat)) ∧ ∃ k, w' = W.drewN k)) (W : World) :
    Calls Try.prog 83 #[.int .i64 l, .int .u64 (n : Int), .int .u64 (b : Int)] W fun e w' => e = .returned (.int .u64 (r : Nat)) ∧ Below W.heap.size W w' := by
  have q0 : ((n : Int) == 0) = false := by simp; omega
  have q1 : ((b : Int) == 0) = false := by simp; omega
  have q2 : ((b : Int) == 1) = false := by simp; omega
  clear h0 h1 h2
  go_enter Try.func83, Try.ntmps83
  go_wp2_with fail
  refine (HM.out _).mono ?_
  rintro e w1 ⟨rfl, hb1⟩
  go_wp2_with fail
  refine (HJ.out _ _ (row_new p w1)).mono ?_
  rintro e w2 ⟨rfl, k, rfl⟩
  go_wp2
  go_ret
  exact ⟨rfl, below_drewN (hb1.alloc hb1.size _) k⟩

set_option maxHeartbeats 400000 in
theorem scaled_zero (l : Int) (n b : Nat) (h : n = 0 ∨ b = 0) (W : World) : Calls Try.prog 83 #[.int .i64 l, .int .u64 (n : Int), .int .u64 (b : Int)] W fun e w' => e = .returned (.int .u64 0) ∧ w' = W := by
  by_cases hn : n = 0
  · subst hn
    go_enter Try.func83, Try.ntmps83
    go_wp2
    go_ret
    exact ⟨rfl, rfl⟩
  · have hb : b = 0 := by omega
    subst hb
    have q0 : ((n : Int) == 0) = false := by simp; omega
    go_enter Try.func83, Try.ntmps83
    go_wp2
    go_ret
    exact ⟨rfl, rfl⟩
set_option maxHeartbeats 400000 in
theorem scaled_one (l : Int) (n : Nat) (h : n ≠ 0) (W : World) : Calls Try.prog 83 #[.int .i64 l, .int .u64 (n : Int), .int .u64 1] W fun e w' => e = .returned (.int .u64 (n : Int)) ∧ w' = W := by
  have q0 : ((n : Int) == 0) = false := by simp; omega
  go_enter Try.func83, Try.ntmps83
  go_wp2
  go_ret
  exact ⟨rfl, rfl⟩
theorem lim_le (l : Int) : lim l ≤ 2 ^ 64 := by
  unfold lim; repeat' split
  all_goals decide
theorem scaled_any (l : Int) (n b : Nat) (hl : l = 0 ∨ l = 1 ∨ l = 2 ∨ l = 3 ∨ l = 4 ∨ l = 5 ∨ l = 6) (hn : n < 2 ^ 64) (hb : b < lim l) (W : World) :
    Calls Try.prog 83 #[.int .i64 l, .int .u64 (n : Int), .int .u64 (b : Int)] W fun e w' => e = .returned (.int .u64 (px b n : Nat)) ∧ Below W.heap.size W w' := by
  by_cases h0 : n = 0 ∨ b = 0
  · have e0 : px b n = 0 := by
      rcases h0 with rfl | rfl
      · exact Tw.px_zero b
      · rw [Tw.px_comm]; exact Tw.px_zero n
    refine (scaled_zero l n b h0 W).mono ?_
    rintro e w' ⟨rfl, rfl⟩
    rw [e0]
    exact ⟨rfl, Below.refl _ _⟩
  · by_cases h1 : b = 1
    · subst h1
      refine (scaled_one l n (by omega) W).mono ?_
      rintro e w' ⟨rfl, rfl⟩
      rw [Tw.px_comm, Tw.px_one n hn]
      exact ⟨rfl, Below.refl _ _⟩
    · exact scaled_core l (fun i => px i n) n b (px b n) (by omega) (by omega) h1 (mult_any n hn) (fun bk W hr => joined_all l n bk b hl hb W hr) W
end Go.Proofs.Ytnecjkdlmecgdaa

/- The library's own contracts of math/bits Len64 and Len, laid at the seat's translation in plain words. -/
namespace Go.Proofs.Ytnecjkdlmecgdaa
open Go.Shelf
def blays125_ren : Go.Shelf.Ren := ⟨fun | 125 => 89 | 128 => 101 | 129 => 88 | n => n, fun | 46 => 41 | 3 => 3 | 51 => 129 | 53 => 25 | 4 => 4 | 5 => 5 | 9 => 9 | n => n, fun | n => n⟩
theorem blays125 : Go.Proofs.Lays.n125 Try.prog blays125_ren := {
  mixed := by kernel_rfl
  f125 := Try.func89.trans (congrArg some (by kernel_rfl))
  f128 := Try.func101.trans (congrArg some (by kernel_rfl))
  f129 := Try.func88.trans (congrArg some (by kernel_rfl))
  t3 := Try.underlying3
  a3 := Try.isAgg3
  z3 := Try.sizeOf3
  v3 := Try.zeroValue3
  t4 := Try.underlying4
  a4 := Try.isAgg4
  z4 := Try.sizeOf4
  v4 := Try.zeroValue4
  t5 := Try.underlying5
  a5 := Try.isAgg5
  z5 := Try.sizeOf5
  v5 := Try.zeroValue5
  t9 := Try.underlying9
  a9 := Try.isAgg9
  z9 := Try.sizeOf9
  v9 := Try.zeroValue9
  t46 := Try.underlying41
  a46 := Try.isAgg41
  z46 := Try.sizeOf41
  v46 := Try.zeroValue41
  t51 := Try.underlying129
  a51 := Try.isAgg129
  z51 := Try.sizeOf129
  v51 := Try.zeroValue129
  t53 := Try.underlying25
  a53 := Try.isAgg25
  z53 := Try.sizeOf25
  v53 := Try.zeroValue25 }
def blays129_ren : Go.Shelf.Ren := ⟨fun | 129 => 88 | n => n, fun | 53 => 25 | 3 => 3 | 4 => 4 | 46 => 41 | 5 => 5 | 9 => 9 | n => n, fun | n => n⟩
theorem blays129 : Go.Proofs.Lays.n129 Try.prog blays129_ren := {
  mixed := by kernel_rfl
  f129 := Try.func88.trans (congrArg some (by kernel_rfl))
  t3 := Try.underlying3
  a3 := Try.isAgg3
  z3 := Try.sizeOf3
  v3 := Try.zeroValue3
  t4 := Try.underlying4
  a4 := Try.isAgg4
  z4 := Try.sizeOf4
  v4 := Try.zeroValue4
  t5 := Try.underlying5
  a5 := Try.isAgg5
  z5 := Try.sizeOf5
  v5 := Try.zeroValue5
  t9 := Try.underlying9
  a9 := Try.isAgg9
  z9 := Try.sizeOf9
  v9 := Try.zeroValue9
  t46 := Try.underlying41
  a46 := Try.isAgg41
  z46 := Try.sizeOf41
  v46 := Try.zeroValue41
  t53 := Try.underlying25
  a53 := Try.isAgg25
  z53 := Try.sizeOf25
  v53 := Try.zeroValue25 }
theorem len_any (x : Int) (w : World) (h0 : 0 ≤ x) (h1 : x ≤ 18446744073709551615) :
    Calls Try.prog 89 #[.int .u64 x] w fun e w' => e = .returned (.int .i64 (Lib.bitLen x.toNat)) ∧ w' = w := Any.bits_Len blays125 x w h0 h1
theorem len64_any (x : Int) (w : World) (h0 : 0 ≤ x) (h1 : x ≤ 18446744073709551615) :
    Calls Try.prog 88 #[.int .u64 x] w fun e w' => e = .returned (.int .i64 (Lib.bitLen x.toNat)) ∧ w' = w := Any.bits_Len64 blays129 x w h0 h1
end Go.Proofs.Ytnecjkdlmecgdaa

/- The products of the upper levels: tower's mul, words and lanes, over the seat's translation. -/
namespace Go.Proofs.Ytnecjkdlmecgdaa
open Go.RowKit
open Tw (px)

/-- The least level of which an element is. -/
def lvl (hi lo : Nat) : Int := if hi ≠ 0 then 7 else if lo < 2 then 0 else if lo < 4 then 1 else if lo < 16 then 2 else if lo < 256 then 3 else if lo < 65536 then 4 else if lo < 4294967296 then 5 else 6
theorem bitLen_of (x j : Nat) (h1 : 2 ^ j ≤ x) (h2 : x < 2 ^ (j + 1)) (h : x < 2 ^ 64) : Lib.bitLen x = j + 1 := by
  have e : x / 2 ^ j = 1 := by
    apply Nat.le_antisymm
    · have : x / 2 ^ j < 2 := by rw [Nat.div_lt_iff_lt_mul (Nat.two_pow_pos j)]; rw [Nat.pow_succ] at h2; omega
      omega
    · exact (Nat.one_le_div_iff (Nat.two_pow_pos j)).2 h1
  rw [Lib.bitLen_shift j x h1 h, e]
  rfl
theorem bitLen_range (x : Nat) (h : x ≠ 0) (hx : x < 2 ^ 64) : 1 ≤ Lib.bitLen x ∧ 2 ^ (Lib.bitLen x - 1) ≤ x ∧ x < 2 ^ Lib.bitLen x := by
  have e : Lib.bitLen x = x.log2 + 1 := bitLen_of x x.log2 (Nat.log2_self_le h) Nat.lt_log2_self hx
  rw [e]
  refine ⟨by omega, ?_, ?_⟩
  · simpa using Nat.log2_self_le h
  · exact Nat.lt_log2_self
theorem bitLen_le_iff (x k : Nat) (h : x ≠ 0) (hx : x < 2 ^ 64) : Lib.bitLen x ≤ k ↔ x < 2 ^ k := by
  obtain ⟨h1, h2, h3⟩ := bitLen_range x h hx
  constructor
  · intro hk; exact Nat.lt_of_lt_of_le h3 (Nat.pow_le_pow_right (by decide) hk)
  · intro hk
    have : 2 ^ (Lib.bitLen x - 1) < 2 ^ k := Nat.lt_of_le_of_lt h2 hk
    have := (Nat.pow_lt_pow_iff_right (by decide : 1 < 2)).1 this
    omega
theorem or_one (lo : Nat) : lo ||| 1 = 2 * (lo / 2) + 1 := by
  apply Nat.eq_of_testBit_eq
  intro i
  rw [Nat.testBit_or]
  cases i with
  | zero => simp [Nat.testBit]
  | succ i =>
    rw [Nat.testBit_succ, Nat.testBit_succ, Nat.testBit_succ]
    rw [show (2 * (lo / 2) + 1) / 2 = lo / 2 by omega]
    simp
theorem lvl_eq (lo : Nat) (h : lo < 2 ^ 64) : ((Lib.bitLen (Lib.bitLen (lo ||| 1) - 1) : Nat) : Int) = lvl 0 lo := by
  have hn := or_one lo
  have hz : lo ||| 1 ≠ 0 := by omega
  have hx : lo ||| 1 < 2 ^ 64 := Nat.or_lt_two_pow h (by decide)
  have I := fun k => bitLen_le_iff (lo ||| 1) k hz hx
  have hr := (bitLen_range _ hz hx).1
  have i1 := I 1; have i2 := I 2; have i4 := I 4; have i8 := I 8; have i16 := I 16; have i32 := I 32; have i64 := I 64
  simp only [hn, Nat.reducePow] at i1 i2 i4 i8 i16 i32 i64
  rw [hn] at hr ⊢
  generalize hB : Lib.bitLen (2 * (lo / 2) + 1) = B at *
  unfold lvl
  simp only [ne_eq, not_true_eq_false, if_false]
  have z : Lib.bitLen 0 = 0 := rfl
  by_cases h1 : lo < 2
  · rw [if_pos h1, show B - 1 = 0 by omega, z]; rfl
  rw [if_neg h1]
  by_cases h2 : lo < 4
  · rw [if_pos h2, bitLen_of (B - 1) 0 (by omega) (by omega) (by omega)]; rfl
  rw [if_neg h2]
  by_cases h3 : lo < 16
  · rw [if_pos h3, bitLen_of (B - 1) 1 (by omega) (by omega) (by omega)]; rfl
  rw [if_neg h3]
  by_cases h4 : lo < 256
  · rw [if_pos h4, bitLen_of (B - 1) 2 (by omega) (by omega) (by omega)]; rfl
  rw [if_neg h4]
  by_cases h5 : lo < 65536
  · rw [if_pos h5, bitLen_of (B - 1) 3 (by omega) (by omega) (by omega)]; rfl
  rw [if_neg h5]
  by_cases h6 : lo < 4294967296
  · rw [if_pos h6, bitLen_of (B - 1) 4 (by omega) (by omega) (by omega)]; rfl
  rw [if_neg h6, bitLen_of (B - 1) 5 (by omega) (by omega) (by omega)]; rfl

set_option maxHeartbeats 400000 in
theorem level_core (lo B r : Nat) (x : Int) (hB : 1 ≤ B ∧ B ≤ 64) (f1 : bits .or .u64 (lo : Int) 1 = x) (H1 : Hid (∀ W, Calls Try.prog 88 #[.int .u64 x] W fun e w' => e = .returned (.int .i64 (B : Nat)) ∧ w' = W)) (H2 : Hid (∀ W, Calls Try.prog 89 #[.int .u64 ((B : Int) - 1)] W fun e w' => e = .returned (.int .i64 (r : Nat)) ∧ w' = W)) (W : World) :
    Calls Try.prog 82 #[.agg #[.int .u64 0, .int .u64 (lo : Int)]] W fun e w' => e = .returned (.int .i64 (r : Nat)) ∧ w' = W.alloc (Obj.cells #[.int .u64 0, .int .u64 (lo : Int)] 27) := by
  go_enter Try.func82, Try.ntmps82
  go_wp2_with fail
  refine (H1.out _).mono ?_
  rintro e w1 ⟨rfl, rfl⟩
  go_wp2_with fail
  refine (H2.out _).mono ?_
  rintro e w1 ⟨rfl, rfl⟩
  go_wp2
  go_ret
  exact ⟨rfl, rfl⟩
set_option maxHeartbeats 400000 in
theorem level_high (hi lo : Nat) (h : hi ≠ 0) (W : World) :
    Calls Try.prog 82 #[.agg #[.int .u64 (hi : Int), .int .u64 (lo : Int)]] W fun e w' => e = .returned (.int .i64 7) ∧ w' = W.alloc (Obj.cells #[.int .u64 (hi : Int), .int .u64 (lo : Int)] 27) := by
  have q : ((hi : Int) != 0) = true := by simp; omega
  go_enter Try.func82, Try.ntmps82
  go_wp2
  go_ret
  exact ⟨rfl, rfl⟩
theorem level_any (hi lo : Nat) (hl : lo < 2 ^ 64) (W : World) :
    Calls Try.prog 82 #[.agg #[.int .u64 (hi : Int), .int .u64 (lo : Int)]] W fun e w' => e = .returned (.int .i64 (lvl hi lo)) ∧ w' = W.alloc (Obj.cells #[.int .u64 (hi : Int), .int .u64 (lo : Int)] 27) := by
  by_cases h : hi = 0
  · subst h
    rw [← lvl_eq lo hl]
    have hz : lo ||| 1 ≠ 0 := by rw [or_one]; omega
    have h1 : lo ||| 1 < 2 ^ 64 := Nat.or_lt_two_pow hl (by decide)
    have hb : Lib.bitLen (lo ||| 1) ≤ 64 := (bitLen_le_iff _ 64 hz h1).2 h1
    have hb1 := (bitLen_range _ hz h1).1
    have f1 : bits .or .u64 (lo : Int) 1 = ((lo ||| 1 : Nat) : Int) := u64_or_nat lo 1 hl (by decide)
    refine level_core lo (Lib.bitLen (lo ||| 1)) _ _ ⟨hb1, hb⟩ f1 (fun W => ?_) (fun W => ?_) W
    · have := len64_any ((lo ||| 1 : Nat) : Int) W (by omega) (by omega)
      rwa [Int.toNat_natCast] at this
    · have := len_any ((Lib.bitLen (lo ||| 1) : Int) - 1) W (by omega) (by omega)
      rwa [show ((Lib.bitLen (lo ||| 1) : Int) - 1).toNat = Lib.bitLen (lo ||| 1) - 1 by omega] at this
  · rw [show lvl hi lo = 7 by unfold lvl; rw [if_pos h]]
    exact level_high hi lo h W

open Tw (px)

/-- Two elements and a place for a third lie in three blocks. -/
def Box3 (X : Nat) (ah al bh bl : Nat) (w : World) : Prop := w.heap[X]? = some (.cells #[.int .u64 (ah : Int), .int .u64 (al : Int)] 27) ∧ w.heap[X + 1]? = some (.cells #[.int .u64 (bh : Int), .int .u64 (bl : Int)] 27) ∧ w.heap[X + 1 + 1]? = some (.cells #[.int .u64 0, .int .u64 0] 27)
theorem heap_keep {w w1 : World} {g : Nat} {o : Obj} (h : w.heap[g]? = some o) (k : Below w.heap.size w w1) : w1.heap[g]? = some o := by
  have hl : g < w.heap.size := by
    rcases Nat.lt_or_ge g w.heap.size with h1 | h1
    · exact h1
    · rw [Array.getElem?_eq_none h1] at h; cases h
  rw [k.block g hl]; exact h
theorem Box3.below {X ah al bh bl : Nat} {w w1 : World} (h : Box3 X ah al bh bl w) (k : Below w.heap.size w w1) : Box3 X ah al bh bl w1 :=
  ⟨heap_keep h.1 k, heap_keep h.2.1 k, heap_keep h.2.2 k⟩
theorem Box3.facts {X ah al bh bl : Nat} {w : World} (h : Box3 X ah al bh bl w) :
    w.cell? ⟨X, 0, none⟩ = some (.int .u64 (ah : Int)) ∧ w.cell? ⟨X, 1, none⟩ = some (.int .u64 (al : Int)) ∧ w.cell? ⟨X + 1, 0, none⟩ = some (.int .u64 (bh : Int)) ∧ w.cell? ⟨X + 1, 1, none⟩ = some (.int .u64 (bl : Int)) ∧ w.cell? ⟨X + 1 + 1, 0, none⟩ = some (.int .u64 0) ∧ w.cell? ⟨X + 1 + 1, 1, none⟩ = some (.int .u64 0) ∧ (∀ o, w.frozen? ⟨X, o, none⟩ = false) ∧ (∀ o, w.frozen? ⟨X + 1, o, none⟩ = false) ∧ (∀ o, w.frozen? ⟨X + 1 + 1, o, none⟩ = false) := by
  obtain ⟨h1, h2, h3⟩ := h
  simp [World.cell?, World.frozen?, h1, h2, h3]
theorem Box3.drew {X ah al bh bl : Nat} {w : World} (h : Box3 X ah al bh bl w) : Box3 X ah al bh bl w.drew := h
theorem Box3.lt {X ah al bh bl : Nat} {w : World} (h : Box3 X ah al bh bl w) : X + 1 + 1 < w.heap.size := by
  rcases Nat.lt_or_ge (X + 1 + 1) w.heap.size with h1 | h1
  · exact h1
  · have := h.2.2; rw [Array.getElem?_eq_none h1] at this; cases this
theorem push_old (A : Array Obj) (o : Obj) (i : Nat) (h : i < A.size) : (A.push o)[i]? = A[i]? := by rw [Array.getElem?_push, if_neg (by omega)]
theorem push_new (A : Array Obj) (o : Obj) (i : Nat) (h : i = A.size) : (A.push o)[i]? = some o := by rw [Array.getElem?_push, if_pos h]
theorem box3_new (W : World) (ah al bh bl : Nat) (o4 o5 : Obj) (n : Nat) : Box3 W.heap.size ah al bh bl ((((((W.alloc (Obj.cells #[.int .u64 (ah : Int), .int .u64 (al : Int)] 27)).alloc (Obj.cells #[.int .u64 (bh : Int), .int .u64 (bl : Int)] 27)).alloc (Obj.cells #[.int .u64 0, .int .u64 0] 27)).alloc o4).alloc o5).drewN n) := by
  refine ⟨?_, ?_, ?_⟩
  · show (((((W.heap.push _).push _).push _).push o4).push o5)[W.heap.size]? = _
    rw [push_old _ _ _ (by simp <;> omega), push_old _ _ _ (by simp <;> omega), push_old _ _ _ (by simp <;> omega), push_old _ _ _ (by simp <;> omega)]
    exact push_new _ _ _ rfl
  · show (((((W.heap.push _).push _).push _).push o4).push o5)[W.heap.size + 1]? = _
    rw [push_old _ _ _ (by simp <;> omega), push_old _ _ _ (by simp <;> omega), push_old _ _ _ (by simp <;> omega)]
    exact push_new _ _ _ (by simp)
  · show (((((W.heap.push _).push _).push _).push o4).push o5)[W.heap.size + 1 + 1]? = _
    rw [push_old _ _ _ (by simp <;> omega), push_old _ _ _ (by simp <;> omega)]
    exact push_new _ _ _ (by simp)
theorem below_new (W : World) (o1 o2 o3 o4 o5 : Obj) (n : Nat) : Below W.heap.size W (((((((W.alloc o1).alloc o2).alloc o3).alloc o4).alloc o5)).drewN n) :=
  below_drewN ((((((Below.refl _ _).alloc (Nat.le_refl _) _).alloc (by simp <;> omega) _).alloc (by simp <;> omega) _).alloc (by simp <;> omega) _).alloc (by simp <;> omega) _) n

set_option maxHeartbeats 2000000 in
set_option maxRecDepth 100000 in
theorem prod_low (ah al bh bl r1 r0 : Nat) (la lb : Int) (hle : ¬ lb < la) (h7 : la < 7)
    (HA : Hid (∀ W, Calls Try.prog 82 #[.agg #[.int .u64 (ah : Int), .int .u64 (al : Int)]] W fun e w' => e = .returned (.int .i64 la) ∧ w' = W.alloc (Obj.cells #[.int .u64 (ah : Int), .int .u64 (al : Int)] 27)))
    (HB : Hid (∀ W, Calls Try.prog 82 #[.agg #[.int .u64 (bh : Int), .int .u64 (bl : Int)]] W fun e w' => e = .returned (.int .i64 lb) ∧ w' = W.alloc (Obj.cells #[.int .u64 (bh : Int), .int .u64 (bl : Int)] 27)))
    (H1 : Hid (∀ W, Calls Try.prog 83 #[.int .i64 la, .int .u64 (bh : Int), .int .u64 (al : Int)] W fun e w' => e = .returned (.int .u64 (r1 : Nat)) ∧ Below W.heap.size W w'))
    (H0 : Hid (∀ W, Calls Try.prog 83 #[.int .i64 la, .int .u64 (bl : Int), .int .u64 (al : Int)] W fun e w' => e = .returned (.int .u64 (r0 : Nat)) ∧ Below W.heap.size W w')) (W : World) :
    Calls Try.prog 67 #[.agg #[.int .u64 (ah : Int), .int .u64 (al : Int)], .agg #[.int .u64 (bh : Int), .int .u64 (bl : Int)]] W fun e w' => e = .returned (.agg #[.int .u64 (r1 : Nat), .int .u64 (r0 : Nat)]) ∧ Below W.heap.size W w' := by
  go_enter Try.func67, Try.ntmps67
  go_upto_region 1 with fail
  go_cut [5, 6] (fun s5 s6 w => s5 = .int .i64 la ∧ s6 = .int .i64 lb ∧ Box3 W.heap.size ah al bh bl w ∧ Below W.heap.size W w)
  case first =>
    go_region_with (first | (go_at_call_of 82 (Value.int .u64 (ah : Int)); refine (HA.out _).mono ?_; rintro e w' ⟨rfl, rfl⟩) | (go_at_call_of 82 (Value.int .u64 (bh : Int)); refine (HB.out _).mono ?_; rintro e w' ⟨rfl, rfl⟩))
    all_goals
      go_wp2_with fail
      go_meet
      exact ⟨rfl, rfl, box3_new W ah al bh bl _ _ 1, below_new W _ _ _ _ _ 1⟩
  case rest =>
    obtain ⟨rfl, rfl, B, hbw⟩ := hcut
    obtain ⟨_, _, _, _, _, _, _, _, _⟩ := B.facts
    go_wp2_with fail
    clear hle h7 HA HB
    have hne1 : ¬ W.heap.size = W.heap.size + 1 + 1 := by omega
    have hne2 : ¬ W.heap.size + 1 + 1 = W.heap.size := by omega
    go_region_held3 (fun w' => w'.cell? ⟨W.heap.size, 1, none⟩ = some (.int .u64 (al : Int)) ∧ w'.cell? ⟨W.heap.size + 1, 0, none⟩ = some (.int .u64 (bh : Int)) ∧ w'.cell? ⟨W.heap.size + 1, 1, none⟩ = some (.int .u64 (bl : Int))) (go_keep) (first | (go_at_call_of 83 (Value.int .u64 (bh : Int)); refine (H1.out _).mono ?_; rintro e w1 ⟨rfl, hb1⟩; have B_w1 : Box3 W.heap.size ah al bh bl w1 := (by first | exact B.drew.below hb1 | exact B_w1.below hb1 | exact B_w2.below hb1); have D_w1 : Below W.heap.size W w1 := (by first | exact hbw.drew.trans (hb1.mono hbw.size) | exact D_w1.trans (hb1.mono D_w1.size) | exact D_w2.trans (hb1.mono D_w2.size)); obtain ⟨_, _, _, _, _, _, _, _, _⟩ := B_w1.facts) | (go_at_call_of 83 (Value.int .u64 (bl : Int)); refine (H0.out _).mono ?_; rintro e w2 ⟨rfl, hb2⟩; have B_w2 : Box3 W.heap.size ah al bh bl w2 := (by first | exact B.drew.below hb2 | exact B_w1.below hb2 | exact B_w2.below hb2); have D_w2 : Below W.heap.size W w2 := (by first | exact hbw.drew.trans (hb2.mono hbw.size) | exact D_w1.trans (hb2.mono D_w1.size) | exact D_w2.trans (hb2.mono D_w2.size)); obtain ⟨_, _, _, _, _, _, _, _, _⟩ := B_w2.facts))
    all_goals
      go_wp2
      refine bodyPost_ret (v := .agg #[.int .u64 (r1 : Nat), .int .u64 (r0 : Nat)]) (by simp [results, Try.results67, go_sem, *]) rfl ⟨rfl, ?_⟩
      first | exact (D_w2.setCell (by simp <;> omega) _).setCell (by simp <;> omega) _ | exact (D_w1.setCell (by simp <;> omega) _).setCell (by simp <;> omega) _

open Tw (px)

theorem heap_set {w : World} {b o : Nat} {v : Value} {c : Array Value} {T : TypeId} (h : w.heap[b]? = some (.cells c T)) : (w.setCell ⟨b, o, none⟩ v).heap[b]? = some (.cells (c.setIfInBounds o v) T) := by
  simp [World.setCell, Array.getElem?_modify, h]
theorem heap_set_other {w : World} {b k o : Nat} {v : Value} {x : Obj} (h : w.heap[k]? = some x) (hn : k ≠ b) : (w.setCell ⟨b, o, none⟩ v).heap[k]? = some x := by
  rw [Below.heap_setCell w ⟨b, o, none⟩ v k hn]; exact h
theorem box3_swap {X ah al bh bl : Nat} {wc : World} (h : Box3 X ah al bh bl wc) : Box3 X bh bl ah al ((((wc.setCell ⟨X, 0, none⟩ (.int .u64 (bh : Int))).setCell ⟨X, 1, none⟩ (.int .u64 (bl : Int))).setCell ⟨X + 1, 0, none⟩ (.int .u64 (ah : Int))).setCell ⟨X + 1, 1, none⟩ (.int .u64 (al : Int))) := by
  obtain ⟨h1, h2, h3⟩ := h
  refine ⟨?_, ?_, ?_⟩
  · exact heap_set_other (heap_set_other (heap_set (heap_set h1)) (by omega)) (by omega)
  · exact heap_set (heap_set (heap_set_other (heap_set_other h2 (by omega)) (by omega)))
  · exact heap_set_other (heap_set_other (heap_set_other (heap_set_other h3 (by omega)) (by omega)) (by omega)) (by omega)

set_option maxHeartbeats 2000000 in
set_option maxRecDepth 100000 in
theorem prod_swap (ah al bh bl r1 r0 : Nat) (la lb : Int) (hle : lb < la) (h7 : lb < 7)
    (HA : Hid (∀ W, Calls Try.prog 82 #[.agg #[.int .u64 (ah : Int), .int .u64 (al : Int)]] W fun e w' => e = .returned (.int .i64 la) ∧ w' = W.alloc (Obj.cells #[.int .u64 (ah : Int), .int .u64 (al : Int)] 27)))
    (HB : Hid (∀ W, Calls Try.prog 82 #[.agg #[.int .u64 (bh : Int), .int .u64 (bl : Int)]] W fun e w' => e = .returned (.int .i64 lb) ∧ w' = W.alloc (Obj.cells #[.int .u64 (bh : Int), .int .u64 (bl : Int)] 27)))
    (H1 : Hid (∀ W, Calls Try.prog 83 #[.int .i64 lb, .int .u64 (ah : Int), .int .u64 (bl : Int)] W fun e w' => e = .returned (.int .u64 (r1 : Nat)) ∧ Below W.heap.size W w'))
    (H0 : Hid (∀ W, Calls Try.prog 83 #[.int .i64 lb, .int .u64 (al : Int), .int .u64 (bl : Int)] W fun e w' => e = .returned (.int .u64 (r0 : Nat)) ∧ Below W.heap.size W w')) (W : World) :
    Calls Try.prog 67 #[.agg #[.int .u64 (ah : Int), .int .u64 (al : Int)], .agg #[.int .u64 (bh : Int), .int .u64 (bl : Int)]] W fun e w' => e = .returned (.agg #[.int .u64 (r1 : Nat), .int .u64 (r0 : Nat)]) ∧ Below W.heap.size W w' := by
  go_enter Try.func67, Try.ntmps67
  go_upto_region 1 with fail
  go_cut [5, 6] (fun s5 s6 w => s5 = .int .i64 la ∧ s6 = .int .i64 lb ∧ Box3 W.heap.size ah al bh bl w ∧ Below W.heap.size W w)
  case first =>
    go_region_with (first | (go_at_call_of 82 (Value.int .u64 (ah : Int)); refine (HA.out _).mono ?_; rintro e w' ⟨rfl, rfl⟩) | (go_at_call_of 82 (Value.int .u64 (bh : Int)); refine (HB.out _).mono ?_; rintro e w' ⟨rfl, rfl⟩))
    all_goals
      go_wp2_with fail
      go_meet
      exact ⟨rfl, rfl, box3_new W ah al bh bl _ _ 1, below_new W _ _ _ _ _ 1⟩
  case rest =>
    obtain ⟨rfl, rfl, B, hbw⟩ := hcut
    obtain ⟨k1, k2, k3, k4, k5, k6, k7, k8, k9⟩ := B.facts
    go_wp2_with fail
    clear hle h7 HA HB k1 k2 k3 k4 k5 k6 k7 k8 k9
    have B5 := box3_swap B
    have D5 : Below W.heap.size W ((((wc.setCell ⟨W.heap.size, 0, none⟩ (.int .u64 (bh : Int))).setCell ⟨W.heap.size, 1, none⟩ (.int .u64 (bl : Int))).setCell ⟨W.heap.size + 1, 0, none⟩ (.int .u64 (ah : Int))).setCell ⟨W.heap.size + 1, 1, none⟩ (.int .u64 (al : Int))) := (((hbw.setCell (Nat.le_refl _) _).setCell (Nat.le_refl _) _).setCell (by simp) _).setCell (by simp) _
    generalize (((wc.setCell ⟨W.heap.size, 0, none⟩ (.int .u64 (bh : Int))).setCell ⟨W.heap.size, 1, none⟩ (.int .u64 (bl : Int))).setCell ⟨W.heap.size + 1, 0, none⟩ (.int .u64 (ah : Int))).setCell ⟨W.heap.size + 1, 1, none⟩ (.int .u64 (al : Int)) = w5 at *
    obtain ⟨_, _, _, _, _, _, _, _, _⟩ := B5.facts
    clear B hbw
    have hne1 : ¬ W.heap.size = W.heap.size + 1 + 1 := by omega
    have hne2 : ¬ W.heap.size + 1 + 1 = W.heap.size := by omega
    go_region_held3 (fun w' => w'.cell? ⟨W.heap.size, 1, none⟩ = some (.int .u64 (bl : Int)) ∧ w'.cell? ⟨W.heap.size + 1, 0, none⟩ = some (.int .u64 (ah : Int)) ∧ w'.cell? ⟨W.heap.size + 1, 1, none⟩ = some (.int .u64 (al : Int))) (go_keep) (first | (go_at_call_of 83 (Value.int .u64 (ah : Int)); refine (H1.out _).mono ?_; rintro e w1 ⟨rfl, hb1⟩; have B_w1 : Box3 W.heap.size bh bl ah al w1 := (by first | exact B5.drew.below hb1 | exact B_w1.below hb1 | exact B_w2.below hb1); have D_w1 : Below W.heap.size W w1 := (by first | exact D5.drew.trans (hb1.mono D5.size) | exact D_w1.trans (hb1.mono D_w1.size) | exact D_w2.trans (hb1.mono D_w2.size)); obtain ⟨_, _, _, _, _, _, _, _, _⟩ := B_w1.facts) | (go_at_call_of 83 (Value.int .u64 (al : Int)); refine (H0.out _).mono ?_; rintro e w2 ⟨rfl, hb2⟩; have B_w2 : Box3 W.heap.size bh bl ah al w2 := (by first | exact B5.drew.below hb2 | exact B_w1.below hb2 | exact B_w2.below hb2); have D_w2 : Below W.heap.size W w2 := (by first | exact D5.drew.trans (hb2.mono D5.size) | exact D_w1.trans (hb2.mono D_w1.size) | exact D_w2.trans (hb2.mono D_w2.size)); obtain ⟨_, _, _, _, _, _, _, _, _⟩ := B_w2.facts))
    all_goals
      go_wp2
      refine bodyPost_ret (v := .agg #[.int .u64 (r1 : Nat), .int .u64 (r0 : Nat)]) (by simp [results, Try.results67, go_sem, *]) rfl ⟨rfl, ?_⟩
      first | exact (D_w2.setCell (by simp <;> omega) _).setCell (by simp <;> omega) _ | exact (D_w1.setCell (by simp <;> omega) _).setCell (by simp <;> omega) _
end Go.Proofs.Ytnecjkdlmecgdaa
