/- Contract of tower.scaled over the seat's translation: a word times an element of a level up to 6. -/
import Derived.Test.YtcejppibcemdeaaPTwC
import Derived.Test.YtcejppibcemdeaaTwD
import Derived.Shelf.Small.Bits
import Derived.Shelf.Strconv.Itoa0
import Derived.Test.YtcejppibcemdeaaProg
namespace Go.Proofs.Ytcejppibcemdeaa
open Go.RowKit
open Tw (px)

/-- How many elements a level has, as a bound. -/
def lim (l : Int) : Nat := if l = 0 then 2 else if l = 1 then 4 else if l = 2 then 16 else if l = 3 then 256 else if l = 4 then 65536 else if l = 5 then 4294967296 else if l = 6 then 18446744073709551616 else 0

theorem joined_all (l : Int) (n bk b : Nat) (hl : l = 0 ∨ l = 1 ∨ l = 2 ∨ l = 3 ∨ l = 4 ∨ l = 5 ∨ l = 6) (hb : b < lim l) (w : World) (hr : Row16 (fun i => px i n) bk w) :
    Calls Try.prog 78 #[.int .i64 l, .pointer (some ⟨bk, 0, none⟩), .int .u64 (b : Int)] w fun e w' => e = .returned (.int .u64 (px b n : Nat)) ∧ ∃ k, w' = w.drewN k := by
  have low : ∀ l : Int, l ≤ 2 → b < 16 → Calls Try.prog 78 #[.int .i64 l, .pointer (some ⟨bk, 0, none⟩), .int .u64 (b : Int)] w fun e w' => e = .returned (.int .u64 (px b n : Nat)) ∧ ∃ k, w' = w.drewN k := by
    intro l hl hb
    refine (joined_low l hl (fun i => px i n) bk b (by omega) w hr).mono ?_
    rintro e w' ⟨rfl, rfl⟩
    rw [Nat.mod_eq_of_lt hb]
    exact ⟨rfl, 0, rfl⟩
  rcases hl with rfl | rfl | rfl | rfl | rfl | rfl | rfl
  · exact low 0 (by decide) (by simp [lim] at hb; omega)
  · exact low 1 (by decide) (by simp [lim] at hb; omega)
  · exact low 2 (by decide) (by simp [lim] at hb; omega)
  · have h := joined3 n bk b (by simp [lim] at hb; omega) w hr
    rwa [Nat.mod_eq_of_lt (by simp [lim] at hb; omega)] at h
  · have h := joined4 n bk b (by simp [lim] at hb; omega) w hr
    rwa [Nat.mod_eq_of_lt (by simp [lim] at hb; omega)] at h
  · have h := joined5 n bk b (by simp [lim] at hb; omega) w hr
    rwa [Nat.mod_eq_of_lt (by simp [lim] at hb; omega)] at h
  · have h := joined6 n bk b (by simp [lim] at hb; omega) w hr
    rwa [Nat.mod_eq_of_lt (by simp [lim] at hb; omega)] at h

theorem row_new (p : Nat → Nat) (W : World) : Row16 p W.heap.size (W.alloc (Obj.cells #[.int .u64 ((p 0 : Nat) : Int), .int .u64 ((p 1 : Nat) : Int), .int .u64 ((p 2 : Nat) : Int), .int .u64 ((p 3 : Nat) : Int), .int .u64 ((p 4 : Nat) : Int), .int .u64 ((p 5 : Nat) : Int), .int .u64 ((p 6 : Nat) : Int), .int .u64 ((p 7 : Nat) : Int), .int .u64 ((p 8 : Nat) : Int), .int .u64 ((p 9 : Nat) : Int), .int .u64 ((p 10 : Nat) : Int), .int .u64 ((p 11 : Nat) : Int), .int .u64 ((p 12 : Nat) : Int), .int .u64 ((p 13 : Nat) : Int), .int .u64 ((p 14 : Nat) : Int), .int .u64 ((p 15 : Nat) : Int)] 100)) := by
  intro i hi
  have e : (W.alloc (Obj.cells #[.int .u64 ((p 0 : Nat) : Int), .int .u64 ((p 1 : Nat) : Int), .int .u64 ((p 2 : Nat) : Int), .int .u64 ((p 3 : Nat) : Int), .int .u64 ((p 4 : Nat) : Int), .int .u64 ((p 5 : Nat) : Int), .int .u64 ((p 6 : Nat) : Int), .int .u64 ((p 7 : Nat) : Int), .int .u64 ((p 8 : Nat) : Int), .int .u64 ((p 9 : Nat) : Int), .int .u64 ((p 10 : Nat) : Int), .int .u64 ((p 11 : Nat) : Int), .int .u64 ((p 12 : Nat) : Int), .int .u64 ((p 13 : Nat) : Int), .int .u64 ((p 14 : Nat) : Int), .int .u64 ((p 15 : Nat) : Int)] 100)).cell? ⟨W.heap.size, i, none⟩ = (#[.int .u64 ((p 0 : Nat) : Int), .int .u64 ((p 1 : Nat) : Int), .int .u64 ((p 2 : Nat) : Int), .int .u64 ((p 3 : Nat) : Int), .int .u64 ((p 4 : Nat) : Int), .int .u64 ((p 5 : Nat) : Int), .int .u64 ((p 6 : Nat) : Int), .int .u64 ((p 7 : Nat) : Int), .int .u64 ((p 8 : Nat) : Int), .int .u64 ((p 9 : Nat) : Int), .int .u64 ((p 10 : Nat) : Int), .int .u64 ((p 11 : Nat) : Int), .int .u64 ((p 12 : Nat) : Int), .int .u64 ((p 13 : Nat) : Int), .int .u64 ((p 14 : Nat) : Int), .int .u64 ((p 15 : Nat) : Int)] : Array Value)[i]? := by simp [go_sem]
  rw [e]
  rcases i with _|_|_|_|_|_|_|_|_|_|_|_|_|_|_|_|i
  all_goals first | rfl | omega

set_option maxHeartbeats 1000000 in
set_option maxRecDepth 100000 in
theorem scaled_core (l : Int) (p : Nat → Nat) (n b r : Nat) (h0 : n ≠ 0) (h1 : b ≠ 0) (h2 : b ≠ 1) (HM : Hid (∀ W, Calls Try.prog 77 #[.int .u64 (n : Int)] W fun e w' => e = .returned (.agg #[.int .u64 ((p 0 : Nat) : Int), .int .u64 ((p 1 : Nat) : Int), .int .u64 ((p 2 : Nat) : Int), .int .u64 ((p 3 : Nat) : Int), .int .u64 ((p 4 : Nat) : Int), .int .u64 ((p 5 : Nat) : Int), .int .u64 ((p 6 : Nat) : Int), .int .u64 ((p 7 : Nat) : Int), .int .u64 ((p 8 : Nat) : Int), .int .u64 ((p 9 : Nat) : Int), .int .u64 ((p 10 : Nat) : Int), .int .u64 ((p 11 : Nat) : Int), .int .u64 ((p 12 : Nat) : Int), .int .u64 ((p 13 : Nat) : Int), .int .u64 ((p 14 : Nat) : Int), .int .u64 ((p 15 : Nat) : Int)]) ∧ Below W.heap.size W w')) (HJ : Hid (∀ (bk : Nat) (W : World), Row16 p bk W → Calls Try.prog 78 #[.int .i64 l, .pointer (some ⟨bk, 0, none⟩), .int .u64 (b : Int)] W fun e w' => e = .returned (.int .u64 (r : Nat)) ∧ ∃ k, w' = W.drewN k)) (W : World) :
    Calls Try.prog 72 #[.int .i64 l, .int .u64 (n : Int), .int .u64 (b : Int)] W fun e w' => e = .returned (.int .u64 (r : Nat)) ∧ Below W.heap.size W w' := by
  have q0 : ((n : Int) == 0) = false := by simp; omega
  have q1 : ((b : Int) == 0) = false := by simp; omega
  have q2 : ((b : Int) == 1) = false := by simp; omega
  clear h0 h1 h2
  go_enter Try.func72, Try.ntmps72
  go_wp2_with fail
  refine (HM.out _).mono ?_
  rintro e w1 ⟨rfl, hb1⟩
  go_wp2_with fail
  refine (HJ.out _ _ (row_new p w1)).mono ?_
  rintro e w2 ⟨rfl, k, rfl⟩
  go_wp2
  go_ret
  exact ⟨rfl, below_drewN (hb1.alloc hb1.size _) k⟩

set_option maxHeartbeats 400000 in
theorem scaled_zero (l : Int) (n b : Nat) (h : n = 0 ∨ b = 0) (W : World) : Calls Try.prog 72 #[.int .i64 l, .int .u64 (n : Int), .int .u64 (b : Int)] W fun e w' => e = .returned (.int .u64 0) ∧ w' = W := by
  by_cases hn : n = 0
  · subst hn
    go_enter Try.func72, Try.ntmps72
    go_wp2
    go_ret
    exact ⟨rfl, rfl⟩
  · have hb : b = 0 := by omega
    subst hb
    have q0 : ((n : Int) == 0) = false := by simp; omega
    go_enter Try.func72, Try.ntmps72
    go_wp2
    go_ret
    exact ⟨rfl, rfl⟩
set_option maxHeartbeats 400000 in
theorem scaled_one (l : Int) (n : Nat) (h : n ≠ 0) (W : World) : Calls Try.prog 72 #[.int .i64 l, .int .u64 (n : Int), .int .u64 1] W fun e w' => e = .returned (.int .u64 (n : Int)) ∧ w' = W := by
  have q0 : ((n : Int) == 0) = false := by simp; omega
  go_enter Try.func72, Try.ntmps72
  go_wp2
  go_ret
  exact ⟨rfl, rfl⟩
theorem lim_le (l : Int) : lim l ≤ 2 ^ 64 := by
  unfold lim; repeat' split
  all_goals decide
theorem scaled_any (l : Int) (n b : Nat) (hl : l = 0 ∨ l = 1 ∨ l = 2 ∨ l = 3 ∨ l = 4 ∨ l = 5 ∨ l = 6) (hn : n < 2 ^ 64) (hb : b < lim l) (W : World) :
    Calls Try.prog 72 #[.int .i64 l, .int .u64 (n : Int), .int .u64 (b : Int)] W fun e w' => e = .returned (.int .u64 (px b n : Nat)) ∧ Below W.heap.size W w' := by
  by_cases h0 : n = 0 ∨ b = 0
  · have e0 : px b n = 0 := by
      rcases h0 with rfl | rfl
      · exact Tw.px_zero b
      · rw [Tw.px_comm]; exact Tw.px_zero n
    refine (scaled_zero l n b h0 W).mono ?_
    rintro e w' ⟨rfl, rfl⟩
    rw [e0]
    exact ⟨rfl, Below.refl _ _⟩
  · by_cases h1 : b = 1
    · subst h1
      refine (scaled_one l n (by omega) W).mono ?_
      rintro e w' ⟨rfl, rfl⟩
      rw [Tw.px_comm, Tw.px_one n hn]
      exact ⟨rfl, Below.refl _ _⟩
    · exact scaled_core l (fun i => px i n) n b (px b n) (by omega) (by omega) h1 (mult_any n hn) (fun bk W hr => joined_all l n bk b hl hb W hr) W
end Go.Proofs.Ytcejppibcemdeaa

/- The library's own contracts of math/bits Len64 and Len, laid at the seat's translation in plain words. -/
namespace Go.Proofs.Ytcejppibcemdeaa
open Go.Shelf
def blays125_ren : Go.Shelf.Ren := ⟨fun | 125 => 76 | 128 => 80 | 129 => 74 | n => n, fun | 46 => 79 | 3 => 3 | 51 => 106 | 53 => 22 | 4 => 4 | 5 => 5 | 9 => 9 | n => n, fun | n => n⟩
theorem blays125 : Go.Proofs.Lays.n125 Try.prog blays125_ren := {
  mixed := by kernel_rfl
  f125 := Try.func76.trans (congrArg some (by kernel_rfl))
  f128 := Try.func80.trans (congrArg some (by kernel_rfl))
  f129 := Try.func74.trans (congrArg some (by kernel_rfl))
  t3 := Try.underlying3
  a3 := Try.isAgg3
  z3 := Try.sizeOf3
  v3 := Try.zeroValue3
  t4 := Try.underlying4
  a4 := Try.isAgg4
  z4 := Try.sizeOf4
  v4 := Try.zeroValue4
  t5 := Try.underlying5
  a5 := Try.isAgg5
  z5 := Try.sizeOf5
  v5 := Try.zeroValue5
  t9 := Try.underlying9
  a9 := Try.isAgg9
  z9 := Try.sizeOf9
  v9 := Try.zeroValue9
  t46 := Try.underlying79
  a46 := Try.isAgg79
  z46 := Try.sizeOf79
  v46 := Try.zeroValue79
  t51 := Try.underlying106
  a51 := Try.isAgg106
  z51 := Try.sizeOf106
  v51 := Try.zeroValue106
  t53 := Try.underlying22
  a53 := Try.isAgg22
  z53 := Try.sizeOf22
  v53 := Try.zeroValue22 }
def blays129_ren : Go.Shelf.Ren := ⟨fun | 129 => 74 | n => n, fun | 53 => 22 | 3 => 3 | 4 => 4 | 46 => 79 | 5 => 5 | 9 => 9 | n => n, fun | n => n⟩
theorem blays129 : Go.Proofs.Lays.n129 Try.prog blays129_ren := {
  mixed := by kernel_rfl
  f129 := Try.func74.trans (congrArg some (by kernel_rfl))
  t3 := Try.underlying3
  a3 := Try.isAgg3
  z3 := Try.sizeOf3
  v3 := Try.zeroValue3
  t4 := Try.underlying4
  a4 := Try.isAgg4
  z4 := Try.sizeOf4
  v4 := Try.zeroValue4
  t5 := Try.underlying5
  a5 := Try.isAgg5
  z5 := Try.sizeOf5
  v5 := Try.zeroValue5
  t9 := Try.underlying9
  a9 := Try.isAgg9
  z9 := Try.sizeOf9
  v9 := Try.zeroValue9
  t46 := Try.underlying79
  a46 := Try.isAgg79
  z46 := Try.sizeOf79
  v46 := Try.zeroValue79
  t53 := Try.underlying22
  a53 := Try.isAgg22
  z53 := Try.sizeOf22
  v53 := Try.zeroValue22 }
theorem len_any (x : Int) (w : World) (h0 : 0 ≤ x) (h1 : x ≤ 18446744073709551615) :
    Calls Try.prog 76 #[.int .u64 x] w fun e w' => e = .returned (.int .i64 (Lib.bitLen x.toNat)) ∧ w' = w := Any.bits_Len blays125 x w h0 h1
theorem len64_any (x : Int) (w : World) (h0 : 0 ≤ x) (h1 : x ≤ 18446744073709551615) :
    Calls Try.prog 74 #[.int .u64 x] w fun e w' => e = .returned (.int .i64 (Lib.bitLen x.toNat)) ∧ w' = w := Any.bits_Len64 blays129 x w h0 h1
end Go.Proofs.Ytcejppibcemdeaa
