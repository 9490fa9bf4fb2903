/- Contract of tower.joined over the seat's translation. -/
import Derived.Test.YtejoombhcnldmaaPTwC
import Derived.Deep.QuietTactic
import Derived.BigQuiet
import Derived.Shelf.Small.Bits
import Derived.Shelf.Strconv.Itoa0
import Derived.Test.YtejoombhcnldmaaProg
namespace Go.Proofs.Ytejoombhcnldmaa
open Go.RowKit
open Tw (px)

/-- The block b holds the products of a word with each element of level 2. -/
def Row16 (p : Nat → Nat) (b : Nat) (w : World) : Prop := ∀ i, i < 16 → w.cell? ⟨b, i, none⟩ = some (.int .u64 (p i : Nat))

theorem i_and15 (b : Nat) (h : b < 2 ^ 64) : bits .and .u64 (b : Int) 15 = ((b % 16 : Nat) : Int) := by
  have := u64_and_nat b 15 h (by decide)
  rw [show b &&& 15 = b % 16 from Nat.and_two_pow_sub_one_eq_mod b 4] at this
  exact this

set_option maxHeartbeats 400000 in
theorem joined_low (l : Int) (hl : l ≤ 2) (p : Nat → Nat) (bk b : Nat) (h : b < 2 ^ 64) (w : World) (hr : Row16 p bk w) :
    Calls Try.prog 87 #[.int .i64 l, .pointer (some ⟨bk, 0, none⟩), .int .u64 (b : Int)] w fun e w' => e = .returned (.int .u64 (p (b % 16) : Nat)) ∧ w' = w := by
  have f1 := i_and15 b h
  have hc : b % 16 < 16 := Nat.mod_lt _ (by decide)
  have f2 := hr (b % 16) hc
  clear hr
  generalize b % 16 = c at *
  go_enter Try.func87, Try.ntmps87
  go_wp2
  go_ret
  exact ⟨rfl, rfl⟩

set_option maxHeartbeats 400000 in
theorem joined3_core (p : Nat → Nat) (bk b c d q r : Nat) (w : World) (f1 : bits .and .u64 (b : Int) 15 = (c : Int)) (f2 : bits .and .u64 ((b : Int) / 16) 15 = (d : Int)) (hc : c < 16) (hd : d < 16) (c1 : w.cell? ⟨bk, c, none⟩ = some (.int .u64 (p c : Nat))) (c2 : w.cell? ⟨bk, d, none⟩ = some (.int .u64 (p d : Nat))) (H : Hid (∀ W, Calls Try.prog 95 #[.int .u64 (p d : Int)] W fun e w' => e = .returned (.int .u64 (q : Nat)) ∧ w' = W)) (f3 : bits .xor .u64 (p c : Int) (q : Int) = (r : Int)) :
    Calls Try.prog 87 #[.int .i64 3, .pointer (some ⟨bk, 0, none⟩), .int .u64 (b : Int)] w fun e w' => e = .returned (.int .u64 (r : Nat)) ∧ ∃ k, w' = w.drewN k := by
  generalize p c = pc at *
  generalize p d = pd at *
  go_enter Try.func87, Try.ntmps87
  go_wp2
  go_quiet ((go_at_call 95; exact Calls.quiet_of_same (H.out _)))
  go_wp2
  go_ret
  exact ⟨rfl, _, rfl⟩

theorem x_nat (a b : Nat) (ha : a < 2 ^ 64) (hb : b < 2 ^ 64) : bits .xor .u64 (a : Int) (b : Int) = ((a ^^^ b : Nat) : Int) := u64_xor_nat a b ha hb
theorem px_left (a b n : Nat) : px a n ^^^ px b n = px (a ^^^ b) n := by rw [Tw.px_comm a, Tw.px_comm b, Tw.px_comm (a ^^^ b), Tw.px_lin n a b]
/-- The lower and the upper half of a number of 2 m bits. -/
theorem halves (m b : Nat) : (b % 2 ^ m) ^^^ (((b >>> m) % 2 ^ m) <<< m) = b % 2 ^ (2 * m) := by
  apply Nat.eq_of_testBit_eq
  intro i
  rw [Nat.testBit_xor, Nat.testBit_mod_two_pow, Nat.testBit_shiftLeft, Nat.testBit_mod_two_pow, Nat.testBit_mod_two_pow, Nat.testBit_shiftRight]
  by_cases h1 : i < m
  · simp [h1, show ¬ m ≤ i by omega, show i < 2 * m by omega]
  · by_cases h2 : i < 2 * m
    · simp [h1, h2, show m ≤ i by omega, show i - m < m by omega, show m + (i - m) = i by omega]
    · simp [h1, h2, show ¬ i - m < m by omega]
theorem px_top (j g m : Nat) (hg : g = Tw.enc 6 (Tw.gk j 6)) (h : ∀ i, i < m → Tw.enc 6 (Tw.laneX j 6 (Tw.dec 6 (2 ^ i))) = (2 ^ i) <<< m) (x : Nat) (hx : x < 2 ^ m) : px g x = x <<< m := by
  refine Tw.lin_ext (f := px g) (g := fun w => w <<< m) (Tw.px_lin g) (Tw.Lin.id.shl m) m ?_ x hx
  intro i hi
  rw [Tw.px_lane j g hg]
  exact h i hi
theorem comb3 (b : Nat) : (b % 16) ^^^ px 16 ((b >>> 4) % 16) = b % 256 := by
  rw [px_top 3 16 4 (by decide +kernel) (by decide +kernel) _ (Nat.mod_lt _ (by decide))]
  exact halves 4 b
theorem comb4 (b : Nat) : (b % 2 ^ 8) ^^^ px 256 ((b >>> 8) % 2 ^ 8) = b % 2 ^ 16 := by
  rw [px_top 4 256 8 (by decide +kernel) (by decide +kernel) _ (Nat.mod_lt _ (by decide))]
  exact halves 8 b
theorem comb5 (b : Nat) : (b % 2 ^ 16) ^^^ px 65536 ((b >>> 16) % 2 ^ 16) = b % 2 ^ 32 := by
  rw [px_top 5 65536 16 (by decide +kernel) (by decide +kernel) _ (Nat.mod_lt _ (by decide))]
  exact halves 16 b
theorem comb6 (b : Nat) : (b % 2 ^ 32) ^^^ px 4294967296 ((b >>> 32) % 2 ^ 32) = b % 2 ^ 64 := by
  rw [px_top 6 4294967296 32 (by decide +kernel) (by decide +kernel) _ (Nat.mod_lt _ (by decide))]
  exact halves 32 b
theorem px_swap (g x n : Nat) : px g (px x n) = px (px g x) n := (Tw.px_assoc g x n).symm

theorem joined3 (n bk b : Nat) (h : b < 2 ^ 64) (w : World) (hr : Row16 (fun i => px i n) bk w) :
    Calls Try.prog 87 #[.int .i64 3, .pointer (some ⟨bk, 0, none⟩), .int .u64 (b : Int)] w fun e w' => e = .returned (.int .u64 (px (b % 2 ^ 8) n : Nat)) ∧ ∃ k, w' = w.drewN k := by
  have hs : b >>> 4 < 2 ^ 64 := Nat.lt_of_le_of_lt (by rw [Nat.shiftRight_eq_div_pow]; exact Nat.div_le_self _ _) h
  have f2 : bits .and .u64 ((b : Int) / 16) 15 = (((b >>> 4) % 16 : Nat) : Int) := by
    rw [← i_and15 _ hs, Nat.shiftRight_eq_div_pow]
    rfl
  have hc : b % 16 < 16 := Nat.mod_lt _ (by decide)
  have hd : (b >>> 4) % 16 < 16 := Nat.mod_lt _ (by decide)
  refine joined3_core (fun i => px i n) bk b (b % 16) ((b >>> 4) % 16) (px 16 (px ((b >>> 4) % 16) n)) (px (b % 2 ^ 8) n) w (i_and15 b h) f2 hc hd (hr _ hc) (hr _ hd) (t3_any _ (Tw.px_lt _ _)) ?_
  show bits .xor .u64 ((px (b % 16) n : Nat) : Int) _ = _
  rw [x_nat _ _ (Tw.px_lt _ _) (Tw.px_lt _ _), px_swap, px_left, comb3]

theorem Row16.drewN {p : Nat → Nat} {b : Nat} {w : World} (h : Row16 p b w) (k : Nat) : Row16 p b (w.drewN k) := fun i hi => by
  have := h i hi
  simpa [go_sem] using this

set_option maxHeartbeats 400000 in
theorem joined4_core (bk b c lo hi q r : Nat) (w : World) (f1 : (b : Int) / 256 = (c : Int)) (H1 : Hid (Calls Try.prog 87 #[.int .i64 3, .pointer (some ⟨bk, 0, none⟩), .int .u64 (b : Int)] w fun e w' => e = .returned (.int .u64 (lo : Nat)) ∧ ∃ k, w' = w.drewN k)) (H2 : Hid (∀ k, Calls Try.prog 87 #[.int .i64 3, .pointer (some ⟨bk, 0, none⟩), .int .u64 (c : Int)] (w.drewN k) fun e w' => e = .returned (.int .u64 (hi : Nat)) ∧ ∃ k', w' = (w.drewN k).drewN k')) (H3 : Hid (∀ W, Calls Try.prog 96 #[.int .i64 4, .int .u64 (hi : Int)] W fun e w' => e = .returned (.int .u64 (q : Nat)) ∧ w' = W)) (f3 : bits .xor .u64 (lo : Int) (q : Int) = (r : Int)) :
    Calls Try.prog 87 #[.int .i64 4, .pointer (some ⟨bk, 0, none⟩), .int .u64 (b : Int)] w fun e w' => e = .returned (.int .u64 (r : Nat)) ∧ ∃ k, w' = w.drewN k := by
  have F1 : Hid ((b : Int) / 256 = (c : Int)) := f1
  clear f1
  go_enter Try.func87, Try.ntmps87
  go_wp2_with fail
  refine H1.out.mono ?_
  rintro e w1 ⟨rfl, k1, rfl⟩
  go_wp2_with fail
  rw [F1.out]
  refine (H2.out _).mono ?_
  rintro e w2 ⟨rfl, k2, rfl⟩
  go_wp2_with fail
  refine (H3.out _).mono ?_
  rintro e w3 ⟨rfl, rfl⟩
  go_wp2
  go_ret
  exact ⟨rfl, k1 + k2, rfl⟩
theorem joined4 (n bk b : Nat) (h : b < 2 ^ 64) (w : World) (hr : Row16 (fun i => px i n) bk w) :
    Calls Try.prog 87 #[.int .i64 4, .pointer (some ⟨bk, 0, none⟩), .int .u64 (b : Int)] w fun e w' => e = .returned (.int .u64 (px (b % 2 ^ 16) n : Nat)) ∧ ∃ k, w' = w.drewN k := by
  have hs : b >>> 8 < 2 ^ 64 := Nat.lt_of_le_of_lt (by rw [Nat.shiftRight_eq_div_pow]; exact Nat.div_le_self _ _) h
  have f1 : (b : Int) / 256 = ((b >>> 8 : Nat) : Int) := by
    rw [Nat.shiftRight_eq_div_pow]
    rfl
  refine joined4_core bk b (b >>> 8) (px (b % 2 ^ 8) n) (px ((b >>> 8) % 2 ^ 8) n) (px 256 (px ((b >>> 8) % 2 ^ 8) n)) (px (b % 2 ^ 16) n) w f1 (joined3 n bk b h w hr) (fun k => joined3 n bk _ hs (w.drewN k) (hr.drewN k)) (tx_any 4 _ (Tw.px_lt _ _)) ?_
  rw [x_nat _ _ (Tw.px_lt _ _) (Tw.px_lt _ _), px_swap, px_left, comb4]

set_option maxHeartbeats 400000 in
theorem joined5_core (bk b c lo hi q r : Nat) (w : World) (f1 : (b : Int) / 65536 = (c : Int)) (H1 : Hid (Calls Try.prog 87 #[.int .i64 4, .pointer (some ⟨bk, 0, none⟩), .int .u64 (b : Int)] w fun e w' => e = .returned (.int .u64 (lo : Nat)) ∧ ∃ k, w' = w.drewN k)) (H2 : Hid (∀ k, Calls Try.prog 87 #[.int .i64 4, .pointer (some ⟨bk, 0, none⟩), .int .u64 (c : Int)] (w.drewN k) fun e w' => e = .returned (.int .u64 (hi : Nat)) ∧ ∃ k', w' = (w.drewN k).drewN k')) (H3 : Hid (∀ W, Calls Try.prog 96 #[.int .i64 5, .int .u64 (hi : Int)] W fun e w' => e = .returned (.int .u64 (q : Nat)) ∧ w' = W)) (f3 : bits .xor .u64 (lo : Int) (q : Int) = (r : Int)) :
    Calls Try.prog 87 #[.int .i64 5, .pointer (some ⟨bk, 0, none⟩), .int .u64 (b : Int)] w fun e w' => e = .returned (.int .u64 (r : Nat)) ∧ ∃ k, w' = w.drewN k := by
  have F1 : Hid ((b : Int) / 65536 = (c : Int)) := f1
  clear f1
  go_enter Try.func87, Try.ntmps87
  go_wp2_with fail
  refine H1.out.mono ?_
  rintro e w1 ⟨rfl, k1, rfl⟩
  go_wp2_with fail
  rw [F1.out]
  refine (H2.out _).mono ?_
  rintro e w2 ⟨rfl, k2, rfl⟩
  go_wp2_with fail
  refine (H3.out _).mono ?_
  rintro e w3 ⟨rfl, rfl⟩
  go_wp2
  go_ret
  exact ⟨rfl, k1 + k2, rfl⟩
theorem joined5 (n bk b : Nat) (h : b < 2 ^ 64) (w : World) (hr : Row16 (fun i => px i n) bk w) :
    Calls Try.prog 87 #[.int .i64 5, .pointer (some ⟨bk, 0, none⟩), .int .u64 (b : Int)] w fun e w' => e = .returned (.int .u64 (px (b % 2 ^ 32) n : Nat)) ∧ ∃ k, w' = w.drewN k := by
  have hs : b >>> 16 < 2 ^ 64 := Nat.lt_of_le_of_lt (by rw [Nat.shiftRight_eq_div_pow]; exact Nat.div_le_self _ _) h
  have f1 : (b : Int) / 65536 = ((b >>> 16 : Nat) : Int) := by
    rw [Nat.shiftRight_eq_div_pow]
    rfl
  refine joined5_core bk b (b >>> 16) (px (b % 2 ^ 16) n) (px ((b >>> 16) % 2 ^ 16) n) (px 65536 (px ((b >>> 16) % 2 ^ 16) n)) (px (b % 2 ^ 32) n) w f1 (joined4 n bk b h w hr) (fun k => joined4 n bk _ hs (w.drewN k) (hr.drewN k)) (tx_any 5 _ (Tw.px_lt _ _)) ?_
  rw [x_nat _ _ (Tw.px_lt _ _) (Tw.px_lt _ _), px_swap, px_left, comb5]

set_option maxHeartbeats 400000 in
theorem joined6_core (bk b c lo hi q r : Nat) (w : World) (f1 : (b : Int) / 4294967296 = (c : Int)) (H1 : Hid (Calls Try.prog 87 #[.int .i64 5, .pointer (some ⟨bk, 0, none⟩), .int .u64 (b : Int)] w fun e w' => e = .returned (.int .u64 (lo : Nat)) ∧ ∃ k, w' = w.drewN k)) (H2 : Hid (∀ k, Calls Try.prog 87 #[.int .i64 5, .pointer (some ⟨bk, 0, none⟩), .int .u64 (c : Int)] (w.drewN k) fun e w' => e = .returned (.int .u64 (hi : Nat)) ∧ ∃ k', w' = (w.drewN k).drewN k')) (H3 : Hid (∀ W, Calls Try.prog 96 #[.int .i64 6, .int .u64 (hi : Int)] W fun e w' => e = .returned (.int .u64 (q : Nat)) ∧ w' = W)) (f3 : bits .xor .u64 (lo : Int) (q : Int) = (r : Int)) :
    Calls Try.prog 87 #[.int .i64 6, .pointer (some ⟨bk, 0, none⟩), .int .u64 (b : Int)] w fun e w' => e = .returned (.int .u64 (r : Nat)) ∧ ∃ k, w' = w.drewN k := by
  have F1 : Hid ((b : Int) / 4294967296 = (c : Int)) := f1
  clear f1
  go_enter Try.func87, Try.ntmps87
  go_wp2_with fail
  refine H1.out.mono ?_
  rintro e w1 ⟨rfl, k1, rfl⟩
  go_wp2_with fail
  rw [F1.out]
  refine (H2.out _).mono ?_
  rintro e w2 ⟨rfl, k2, rfl⟩
  go_wp2_with fail
  refine (H3.out _).mono ?_
  rintro e w3 ⟨rfl, rfl⟩
  go_wp2
  go_ret
  exact ⟨rfl, k1 + k2, rfl⟩
theorem joined6 (n bk b : Nat) (h : b < 2 ^ 64) (w : World) (hr : Row16 (fun i => px i n) bk w) :
    Calls Try.prog 87 #[.int .i64 6, .pointer (some ⟨bk, 0, none⟩), .int .u64 (b : Int)] w fun e w' => e = .returned (.int .u64 (px (b % 2 ^ 64) n : Nat)) ∧ ∃ k, w' = w.drewN k := by
  have hs : b >>> 32 < 2 ^ 64 := Nat.lt_of_le_of_lt (by rw [Nat.shiftRight_eq_div_pow]; exact Nat.div_le_self _ _) h
  have f1 : (b : Int) / 4294967296 = ((b >>> 32 : Nat) : Int) := by
    rw [Nat.shiftRight_eq_div_pow]
    rfl
  refine joined6_core bk b (b >>> 32) (px (b % 2 ^ 32) n) (px ((b >>> 32) % 2 ^ 32) n) (px 4294967296 (px ((b >>> 32) % 2 ^ 32) n)) (px (b % 2 ^ 64) n) w f1 (joined5 n bk b h w hr) (fun k => joined5 n bk _ hs (w.drewN k) (hr.drewN k)) (tx_any 6 _ (Tw.px_lt _ _)) ?_
  rw [x_nat _ _ (Tw.px_lt _ _) (Tw.px_lt _ _), px_swap, px_left, comb6]
end Go.Proofs.Ytejoombhcnldmaa

/- Contract of tower.scaled over the seat's translation: a word times an element of a level up to 6. -/
namespace Go.Proofs.Ytejoombhcnldmaa
open Go.RowKit
open Tw (px)

/-- How many elements a level has, as a bound. -/
def lim (l : Int) : Nat := if l = 0 then 2 else if l = 1 then 4 else if l = 2 then 16 else if l = 3 then 256 else if l = 4 then 65536 else if l = 5 then 4294967296 else if l = 6 then 18446744073709551616 else 0

theorem joined_all (l : Int) (n bk b : Nat) (hl : l = 0 ∨ l = 1 ∨ l = 2 ∨ l = 3 ∨ l = 4 ∨ l = 5 ∨ l = 6) (hb : b < lim l) (w : World) (hr : Row16 (fun i => px i n) bk w) :
    Calls Try.prog 87 #[.int .i64 l, .pointer (some ⟨bk, 0, none⟩), .int .u64 (b : Int)] w fun e w' => e = .returned (.int .u64 (px b n : Nat)) ∧ ∃ k, w' = w.drewN k := by
  have low : ∀ l : Int, l ≤ 2 → b < 16 → Calls Try.prog 87 #[.int .i64 l, .pointer (some ⟨bk, 0, none⟩), .int .u64 (b : Int)] w fun e w' => e = .returned (.int .u64 (px b n : Nat)) ∧ ∃ k, w' = w.drewN k := by
    intro l hl hb
    refine (joined_low l hl (fun i => px i n) bk b (by omega) w hr).mono ?_
    rintro e w' ⟨rfl, rfl⟩
    rw [Nat.mod_eq_of_lt hb]
    exact ⟨rfl, 0, rfl⟩
  rcases hl with rfl | rfl | rfl | rfl | rfl | rfl | rfl
  · exact low 0 (by decide) (by simp [lim] at hb; omega)
  · exact low 1 (by decide) (by simp [lim] at hb; omega)
  · exact low 2 (by decide) (by simp [lim] at hb; omega)
  · have h := joined3 n bk b (by simp [lim] at hb; omega) w hr
    rwa [Nat.mod_eq_of_lt (by simp [lim] at hb; omega)] at h
  · have h := joined4 n bk b (by simp [lim] at hb; omega) w hr
    rwa [Nat.mod_eq_of_lt (by simp [lim] at hb; omega)] at h
  · have h := joined5 n bk b (by simp [lim] at hb; omega) w hr
    rwa [Nat.mod_eq_of_lt (by simp [lim] at hb; omega)] at h
  · have h := joined6 n bk b (by simp [lim] at hb; omega) w hr
    rwa [Nat.mod_eq_of_lt (by simp [lim] at hb; omega)] at h

theorem row_new (p : Nat → Nat) (W : World) : Row16 p W.heap.size (W.alloc (Obj.cells #[.int .u64 ((p 0 : Nat) : Int), .int .u64 ((p 1 : Nat) : Int), .int .u64 ((p 2 : Nat) : Int), .int .u64 ((p 3 : Nat) : Int), .int .u64 ((p 4 : Nat) : Int), .int .u64 ((p 5 : Nat) : Int), .int .u64 ((p 6 : Nat) : Int), .int .u64 ((p 7 : Nat) : Int), .int .u64 ((p 8 : Nat) : Int), .int .u64 ((p 9 : Nat) : Int), .int .u64 ((p 10 : Nat) : Int), .int .u64 ((p 11 : Nat) : Int), .int .u64 ((p 12 : Nat) : Int), .int .u64 ((p 13 : Nat) : Int), .int .u64 ((p 14 : Nat) : Int), .int .u64 ((p 15 : Nat) : Int)] 120)) := by
  intro i hi
  have e : (W.alloc (Obj.cells #[.int .u64 ((p 0 : Nat) : Int), .int .u64 ((p 1 : Nat) : Int), .int .u64 ((p 2 : Nat) : Int), .int .u64 ((p 3 : Nat) : Int), .int .u64 ((p 4 : Nat) : Int), .int .u64 ((p 5 : Nat) : Int), .int .u64 ((p 6 : Nat) : Int), .int .u64 ((p 7 : Nat) : Int), .int .u64 ((p 8 : Nat) : Int), .int .u64 ((p 9 : Nat) : Int), .int .u64 ((p 10 : Nat) : Int), .int .u64 ((p 11 : Nat) : Int), .int .u64 ((p 12 : Nat) : Int), .int .u64 ((p 13 : Nat) : Int), .int .u64 ((p 14 : Nat) : Int), .int .u64 ((p 15 : Nat) : Int)] 120)).cell? ⟨W.heap.size, i, none⟩ = (#[.int .u64 ((p 0 : Nat) : Int), .int .u64 ((p 1 : Nat) : Int), .int .u64 ((p 2 : Nat) : Int), .int .u64 ((p 3 : Nat) : Int), .int .u64 ((p 4 : Nat) : Int), .int .u64 ((p 5 : Nat) : Int), .int .u64 ((p 6 : Nat) : Int), .int .u64 ((p 7 : Nat) : Int), .int .u64 ((p 8 : Nat) : Int), .int .u64 ((p 9 : Nat) : Int), .int .u64 ((p 10 : Nat) : Int), .int .u64 ((p 11 : Nat) : Int), .int .u64 ((p 12 : Nat) : Int), .int .u64 ((p 13 : Nat) : Int), .int .u64 ((p 14 : Nat) : Int), .int .u64 ((p 15 : Nat) : Int)] : Array Value)[i]? := by simp [go_sem]
  rw [e]
  rcases i with _|_|_|_|_|_|_|_|_|_|_|_|_|_|_|_|i
  all_goals first | rfl | omega

set_option maxHeartbeats 1000000 in
set_option maxRecDepth 100000 in
theorem scaled_core (l : Int) (p : Nat → Nat) (n b r : Nat) (h0 : n ≠ 0) (h1 : b ≠ 0) (h2 : b ≠ 1) (HM : Hid (∀ W, Calls Try.prog 86 #[.int .u64 (n : Int)] W fun e w' => e = .returned (.agg #[.int .u64 ((p 0 : Nat) : Int), .int .u64 ((p 1 : Nat) : Int), .int .u64 ((p 2 : Nat) : Int), .int .u64 ((p 3 : Nat) : Int), .int .u64 ((p 4 : Nat) : Int), .int .u64 ((p 5 : Nat) : Int), .int .u64 ((p 6 : Nat) : Int), .int .u64 ((p 7 : Nat) : Int), .int .u64 ((p 8 : Nat) : Int), .int .u64 ((p 9 : Nat) : Int), .int .u64 ((p 10 : Nat) : Int), .int .u64 ((p 11 : Nat) : Int), .int .u64 ((p 12 : Nat) : Int), .int .u64 ((p 13 : Nat) : Int), .int .u64 ((p 14 : Nat) : Int), .int .u64 ((p 15 : Nat) : Int)]) ∧ Below W.heap.size W w')) (HJ : Hid (∀ (bk : Nat) (W : World), Row16 p bk W → Calls Try.prog 87 #[.int .i64 l, .pointer (some ⟨bk, 0, none⟩), .int .u64 (b : Int)] W fun e w' => e = .returned (.int .u64 (r : Nat)) ∧ ∃ k, w' = W.drewN k)) (W : World) :
    Calls Try.prog 72 #[.int .i64 l, .int .u64 (n : Int), .int .u64 (b : Int)] W fun e w' => e = .returned (.int .u64 (r : Nat)) ∧ Below W.heap.size W w' := by
  have q0 : ((n : Int) == 0) = false := by simp; omega
  have q1 : ((b : Int) == 0) = false := by simp; omega
  have q2 : ((b : Int) == 1) = false := by simp; omega
  clear h0 h1 h2
  go_enter Try.func72, Try.ntmps72
  go_wp2_with fail
  refine (HM.out _).mono ?_
  rintro e w1 ⟨rfl, hb1⟩
  go_wp2_with fail
  refine (HJ.out _ _ (row_new p w1)).mono ?_
  rintro e w2 ⟨rfl, k, rfl⟩
  go_wp2
  go_ret
  exact ⟨rfl, below_drewN (hb1.alloc hb1.size _) k⟩

set_option maxHeartbeats 400000 in
theorem scaled_zero (l : Int) (n b : Nat) (h : n = 0 ∨ b = 0) (W : World) : Calls Try.prog 72 #[.int .i64 l, .int .u64 (n : Int), .int .u64 (b : Int)] W fun e w' => e = .returned (.int .u64 0) ∧ w' = W := by
  by_cases hn : n = 0
  · subst hn
    go_enter Try.func72, Try.ntmps72
    go_wp2
    go_ret
    exact ⟨rfl, rfl⟩
  · have hb : b = 0 := by omega
    subst hb
    have q0 : ((n : Int) == 0) = false := by simp; omega
    go_enter Try.func72, Try.ntmps72
    go_wp2
    go_ret
    exact ⟨rfl, rfl⟩
set_option maxHeartbeats 400000 in
theorem scaled_one (l : Int) (n : Nat) (h : n ≠ 0) (W : World) : Calls Try.prog 72 #[.int .i64 l, .int .u64 (n : Int), .int .u64 1] W fun e w' => e = .returned (.int .u64 (n : Int)) ∧ w' = W := by
  have q0 : ((n : Int) == 0) = false := by simp; omega
  go_enter Try.func72, Try.ntmps72
  go_wp2
  go_ret
  exact ⟨rfl, rfl⟩
theorem lim_le (l : Int) : lim l ≤ 2 ^ 64 := by
  unfold lim; repeat' split
  all_goals decide
theorem scaled_any (l : Int) (n b : Nat) (hl : l = 0 ∨ l = 1 ∨ l = 2 ∨ l = 3 ∨ l = 4 ∨ l = 5 ∨ l = 6) (hn : n < 2 ^ 64) (hb : b < lim l) (W : World) :
    Calls Try.prog 72 #[.int .i64 l, .int .u64 (n : Int), .int .u64 (b : Int)] W fun e w' => e = .returned (.int .u64 (px b n : Nat)) ∧ Below W.heap.size W w' := by
  by_cases h0 : n = 0 ∨ b = 0
  · have e0 : px b n = 0 := by
      rcases h0 with rfl | rfl
      · exact Tw.px_zero b
      · rw [Tw.px_comm]; exact Tw.px_zero n
    refine (scaled_zero l n b h0 W).mono ?_
    rintro e w' ⟨rfl, rfl⟩
    rw [e0]
    exact ⟨rfl, Below.refl _ _⟩
  · by_cases h1 : b = 1
    · subst h1
      refine (scaled_one l n (by omega) W).mono ?_
      rintro e w' ⟨rfl, rfl⟩
      rw [Tw.px_comm, Tw.px_one n hn]
      exact ⟨rfl, Below.refl _ _⟩
    · exact scaled_core l (fun i => px i n) n b (px b n) (by omega) (by omega) h1 (mult_any n hn) (fun bk W hr => joined_all l n bk b hl hb W hr) W
end Go.Proofs.Ytejoombhcnldmaa

/- The library's own contracts of math/bits Len64 and Len, laid at the seat's translation in plain words. -/
namespace Go.Proofs.Ytejoombhcnldmaa
open Go.Shelf
def blays125_ren : Go.Shelf.Ren := ⟨fun | 125 => 78 | 128 => 91 | 129 => 85 | n => n, fun | 46 => 67 | 3 => 3 | 51 => 126 | 53 => 24 | 4 => 4 | 5 => 5 | 9 => 9 | n => n, fun | n => n⟩
theorem blays125 : Go.Proofs.Lays.n125 Try.prog blays125_ren := {
  mixed := by kernel_rfl
  f125 := Try.func78.trans (congrArg some (by kernel_rfl))
  f128 := Try.func91.trans (congrArg some (by kernel_rfl))
  f129 := Try.func85.trans (congrArg some (by kernel_rfl))
  t3 := Try.underlying3
  a3 := Try.isAgg3
  z3 := Try.sizeOf3
  v3 := Try.zeroValue3
  t4 := Try.underlying4
  a4 := Try.isAgg4
  z4 := Try.sizeOf4
  v4 := Try.zeroValue4
  t5 := Try.underlying5
  a5 := Try.isAgg5
  z5 := Try.sizeOf5
  v5 := Try.zeroValue5
  t9 := Try.underlying9
  a9 := Try.isAgg9
  z9 := Try.sizeOf9
  v9 := Try.zeroValue9
  t46 := Try.underlying67
  a46 := Try.isAgg67
  z46 := Try.sizeOf67
  v46 := Try.zeroValue67
  t51 := Try.underlying126
  a51 := Try.isAgg126
  z51 := Try.sizeOf126
  v51 := Try.zeroValue126
  t53 := Try.underlying24
  a53 := Try.isAgg24
  z53 := Try.sizeOf24
  v53 := Try.zeroValue24 }
def blays129_ren : Go.Shelf.Ren := ⟨fun | 129 => 85 | n => n, fun | 53 => 24 | 3 => 3 | 4 => 4 | 46 => 67 | 5 => 5 | 9 => 9 | n => n, fun | n => n⟩
theorem blays129 : Go.Proofs.Lays.n129 Try.prog blays129_ren := {
  mixed := by kernel_rfl
  f129 := Try.func85.trans (congrArg some (by kernel_rfl))
  t3 := Try.underlying3
  a3 := Try.isAgg3
  z3 := Try.sizeOf3
  v3 := Try.zeroValue3
  t4 := Try.underlying4
  a4 := Try.isAgg4
  z4 := Try.sizeOf4
  v4 := Try.zeroValue4
  t5 := Try.underlying5
  a5 := Try.isAgg5
  z5 := Try.sizeOf5
  v5 := Try.zeroValue5
  t9 := Try.underlying9
  a9 := Try.isAgg9
  z9 := Try.sizeOf9
  v9 := Try.zeroValue9
  t46 := Try.underlying67
  a46 := Try.isAgg67
  z46 := Try.sizeOf67
  v46 := Try.zeroValue67
  t53 := Try.underlying24
  a53 := Try.isAgg24
  z53 := Try.sizeOf24
  v53 := Try.zeroValue24 }
theorem len_any (x : Int) (w : World) (h0 : 0 ≤ x) (h1 : x ≤ 18446744073709551615) :
    Calls Try.prog 78 #[.int .u64 x] w fun e w' => e = .returned (.int .i64 (Lib.bitLen x.toNat)) ∧ w' = w := Any.bits_Len blays125 x w h0 h1
theorem len64_any (x : Int) (w : World) (h0 : 0 ≤ x) (h1 : x ≤ 18446744073709551615) :
    Calls Try.prog 85 #[.int .u64 x] w fun e w' => e = .returned (.int .i64 (Lib.bitLen x.toNat)) ∧ w' = w := Any.bits_Len64 blays129 x w h0 h1
end Go.Proofs.Ytejoombhcnldmaa
