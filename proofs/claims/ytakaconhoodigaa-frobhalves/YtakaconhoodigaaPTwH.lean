/- Contracts of octet.isLevel and octet.Of over the seat's translation. -/
import Derived.Test.YtakaconhoodigaaProg
import Derived.WalkKit
import Derived.WalkLawsBesides
import Derived.WalkSpells
import Derived.Deep.QuietTactic
import Derived.BigQuiet
import Derived.Handy
import Derived.Test.YtakaconhoodigaaTwB
import Derived.Test.YtakaconhoodigaaTwM
import Derived.Deep.RegionWith
namespace Go.Proofs.Ytakaconhoodigaa
open Go.RowKit

/-- Is there such a level? -/
def levelB (l : Int) : Bool := decide (0 ≤ l) && decide (l ≤ 7)
set_option maxHeartbeats 400000 in
theorem isLevel_any (l : Int) (w : World) : Calls Try.prog 36 #[.int .i64 l] w fun e w' => e = .returned (.bool (levelB l)) ∧ w' = w := by
  by_cases h0 : 0 ≤ l
  · by_cases h7 : l ≤ 7
    · rw [show levelB l = true by simp [levelB, h0, h7]]
      go_enter Try.func36, Try.ntmps36
      go_wp2
      go_ret
      exact ⟨by simp, rfl⟩
    · rw [show levelB l = false by simp [levelB, h7]]
      go_enter Try.func36, Try.ntmps36
      go_wp2
      go_ret
      exact ⟨by simp, rfl⟩
  · rw [show levelB l = false by simp [levelB, h0]]
    go_enter Try.func36, Try.ntmps36
    go_wp2
    go_ret
    exact ⟨by simp, rfl⟩
theorem level_cases (l : Int) (h : levelB l = true) : l = 0 ∨ l = 1 ∨ l = 2 ∨ l = 3 ∨ l = 4 ∨ l = 5 ∨ l = 6 ∨ l = 7 := by
  simp [levelB] at h; omega

/-- Is an element of a level? -/
def ofB (l hi lo : Int) : Bool := levelB l && (decide (l = 7) || (decide (hi = 0) && decide (lo < 2 ^ (2 ^ l.toNat))))

theorem ret_bool {a b : Bool} (h : a = b) : Ending.returned (.bool a) = .returned (.bool b) := by rw [h]

set_option maxHeartbeats 400000 in
theorem of_low (l hi lo : Int) (hl : l = 0 ∨ l = 1 ∨ l = 2 ∨ l = 3 ∨ l = 4 ∨ l = 5 ∨ l = 6) (h0 : 0 ≤ lo) (h1 : lo < 18446744073709551616) (hh : hi = 0) (w : World) : Calls Try.prog 15 #[.int .i64 l, .agg #[.int .u64 hi, .int .u64 lo]] w fun e w' => e = .returned (.bool (ofB l hi lo)) ∧ Below w.heap.size w w' := by
  subst hh
  rcases hl with rfl | rfl | rfl | rfl | rfl | rfl | rfl
  all_goals
    go_enter Try.func15, Try.ntmps15
    go_wp2
    go_quiet (fail)
    go_wp2
    go_ret
    refine ⟨ret_bool ?_, ?_⟩
    rotate_left
    · exact below_drewN ((Below.refl _ _).alloc (Nat.le_refl _) _) _
    rw [Bool.eq_iff_iff]
    simp [ofB, levelB]
    omega
set_option maxHeartbeats 400000 in
theorem of_any (l hi lo : Int) (h0 : 0 ≤ lo) (h1 : lo < 18446744073709551616) (w : World) : Calls Try.prog 15 #[.int .i64 l, .agg #[.int .u64 hi, .int .u64 lo]] w fun e w' => e = .returned (.bool (ofB l hi lo)) ∧ Below w.heap.size w w' := by
  cases h : levelB l
  · have e : ofB l hi lo = false := by simp [ofB, h]
    rw [e]
    go_enter Try.func15, Try.ntmps15
    go_wp2_with (go_at_call 36; refine (isLevel_any _ _).mono ?_; rintro e w1 ⟨rfl, rfl⟩)
    go_ret
    exact ⟨rfl, (Below.refl _ _).alloc (Nat.le_refl _) _⟩
  · by_cases h7 : l = 7
    · subst h7
      rw [show ofB 7 hi lo = true by simp [ofB, levelB]]
      clear h
      go_enter Try.func15, Try.ntmps15
      go_wp2
      go_ret
      exact ⟨rfl, (Below.refl _ _).alloc (Nat.le_refl _) _⟩
    · have hl : l = 0 ∨ l = 1 ∨ l = 2 ∨ l = 3 ∨ l = 4 ∨ l = 5 ∨ l = 6 := by have := level_cases l h; omega
      by_cases hh : hi = 0
      · exact of_low l hi lo hl h0 h1 hh w
      · have e : ofB l hi lo = false := by simp [ofB, h7, hh]
        rw [e]
        have hq : (hi == 0) = false := by simpa using hh
        have h7' : (l == 7) = false := by simpa using h7
        go_enter Try.func15, Try.ntmps15
        go_wp2_with (go_at_call 36; refine (isLevel_any _ _).mono ?_; rintro e w1 ⟨rfl, rfl⟩)
        go_quiet (fail)
        go_wp2
        go_ret
        exact ⟨rfl, below_drewN ((Below.refl _ _).alloc (Nat.le_refl _) _) _⟩

end Go.Proofs.Ytakaconhoodigaa

/- Contracts of tower.square, Add, Square over the seat's translation. -/
namespace Go.Proofs.Ytakaconhoodigaa
open Go.RowKit
open Tw (px)

theorem keepc {W w1 : World} (hb : Below W.heap.size W w1) {b o : Nat} {v : Value} (h : W.cell? ⟨b, o, none⟩ = some v) : w1.cell? ⟨b, o, none⟩ = some v := by
  have hl : b < W.heap.size := by
    rcases Nat.lt_or_ge b W.heap.size with h1 | h1
    · exact h1
    · simp [World.cell?, Array.getElem?_eq_none h1] at h
  rw [hb.cell (p := ⟨b, o, none⟩) hl]; exact h
theorem keepf {W w1 : World} (hb : Below W.heap.size W w1) {b o : Nat} {v : Value} (h : W.cell? ⟨b, o, none⟩ = some v) (hf : W.frozen? ⟨b, o, none⟩ = false) : w1.frozen? ⟨b, o, none⟩ = false := by
  have hl : b < W.heap.size := by
    rcases Nat.lt_or_ge b W.heap.size with h1 | h1
    · exact h1
    · simp [World.cell?, Array.getElem?_eq_none h1] at h
  rw [hb.frozen (p := ⟨b, o, none⟩) hl]; exact hf

set_option maxHeartbeats 400000 in
theorem square_core (ah al h l r1 r0 : Nat) (H1 : Hid (∀ W, Calls Try.prog 63 #[.int .u64 (ah : Int)] W fun e w' => e = .returned (.int .u64 (h : Nat)) ∧ w' = W)) (H0 : Hid (∀ W, Calls Try.prog 63 #[.int .u64 (al : Int)] W fun e w' => e = .returned (.int .u64 (l : Nat)) ∧ w' = W)) (HX : Hid (∀ W, Calls Try.prog 52 #[.int .u64 (h : Int)] W fun e w' => e = .returned (.int .u64 (r1 : Nat)) ∧ w' = W)) (f : bits .xor .u64 (h : Int) (l : Int) = (r0 : Int)) (W : World) :
    Calls Try.prog 53 #[.agg #[.int .u64 (ah : Int), .int .u64 (al : Int)]] W fun e w' => e = .returned (.agg #[.int .u64 (r1 : Nat), .int .u64 (r0 : Nat)]) ∧ Below W.heap.size W w' := by
  go_enter Try.func53, Try.ntmps53
  go_wp2_with fail
  go_quiet ((first | (go_at_call_of 63 (Value.int .u64 (ah : Int)); exact Calls.quiet_of_same (H1.out _)) | (go_at_call_of 63 (Value.int .u64 (al : Int)); exact Calls.quiet_of_same (H0.out _))))
  go_wp2_with (go_at_call 52; refine (HX.out _).mono ?_; rintro e w1 ⟨rfl, rfl⟩)
  refine bodyPost_ret (v := .agg #[.int .u64 (r1 : Nat), .int .u64 (r0 : Nat)]) (by simp [results, Try.results53, go_sem]) rfl ⟨rfl, ?_⟩
  exact ((below_drewN (((Below.refl _ _).alloc (Nat.le_refl _) _).alloc (by simp) _) nq).setCell (by simp) _).setCell (by simp) _
theorem pmh_self (ah al : Nat) : Tw.pmh ah al ah al = px 4294967296 (px ah ah) := by
  unfold Tw.pmh; rw [Tw.px_comm al ah, Nat.xor_self, Nat.zero_xor]
theorem square_any (ah al : Nat) (h1 : ah < 2 ^ 64) (h2 : al < 2 ^ 64) (W : World) :
    Calls Try.prog 53 #[.agg #[.int .u64 (ah : Int), .int .u64 (al : Int)]] W fun e w' => e = .returned (.agg #[.int .u64 (Tw.pmh ah al ah al : Nat), .int .u64 (Tw.pml ah al ah al : Nat)]) ∧ Below W.heap.size W w' := by
  rw [pmh_self]
  refine square_core ah al (px ah ah) (px al al) _ _ (squares_any ah h1) (squares_any al h2) (t6_any _ (Tw.px_lt _ _)) ?_ W
  rw [u64_xor_nat _ _ (Tw.px_lt _ _) (Tw.px_lt _ _), Nat.xor_comm]
  rfl

set_option maxHeartbeats 400000 in
theorem add_core (ah al bh bl r1 r0 : Nat) (f1 : bits .xor .u64 (ah : Int) (bh : Int) = (r1 : Int)) (f0 : bits .xor .u64 (al : Int) (bl : Int) = (r0 : Int)) (W : World) :
    Calls Try.prog 26 #[.agg #[.int .u64 (ah : Int), .int .u64 (al : Int)], .agg #[.int .u64 (bh : Int), .int .u64 (bl : Int)]] W fun e w' => e = .returned (.agg #[.int .u64 (r1 : Nat), .int .u64 (r0 : Nat)]) ∧ Below W.heap.size W w' := by
  go_enter Try.func26, Try.ntmps26
  go_wp2
  refine bodyPost_ret (v := .agg #[.int .u64 (r1 : Nat), .int .u64 (r0 : Nat)]) (by simp [results, Try.results26, go_sem]) rfl ⟨rfl, ?_⟩
  go_grown
theorem add_any (ah al bh bl : Nat) (h1 : ah < 2 ^ 64) (h2 : al < 2 ^ 64) (h3 : bh < 2 ^ 64) (h4 : bl < 2 ^ 64) (W : World) :
    Calls Try.prog 26 #[.agg #[.int .u64 (ah : Int), .int .u64 (al : Int)], .agg #[.int .u64 (bh : Int), .int .u64 (bl : Int)]] W fun e w' => e = .returned (.agg #[.int .u64 (ah ^^^ bh : Nat), .int .u64 (al ^^^ bl : Nat)]) ∧ Below W.heap.size W w' :=
  add_core ah al bh bl _ _ (u64_xor_nat _ _ h1 h3) (u64_xor_nat _ _ h2 h4) W

set_option maxHeartbeats 400000 in
theorem sq_ok (l : Int) (ah al r1 r0 : Nat) (ho : ofB l ah al = true) (h2 : al < 2 ^ 64) (HS : Hid (∀ W, Calls Try.prog 53 #[.agg #[.int .u64 (ah : Int), .int .u64 (al : Int)]] W fun e w' => e = .returned (.agg #[.int .u64 (r1 : Nat), .int .u64 (r0 : Nat)]) ∧ Below W.heap.size W w')) (W : World) :
    Calls Try.prog 43 #[.int .i64 l, .agg #[.int .u64 (ah : Int), .int .u64 (al : Int)]] W fun e w' => e = .returned (.agg #[.int .u64 (r1 : Nat), .int .u64 (r0 : Nat)]) ∧ Below W.heap.size W w' := by
  have HO : Hid (∀ W, Calls Try.prog 15 #[.int .i64 l, .agg #[.int .u64 (ah : Int), .int .u64 (al : Int)]] W fun e w' => e = .returned (.bool true) ∧ Below W.heap.size W w') := fun W => by
    have := of_any l ah al (by omega) (by omega) W
    rwa [ho] at this
  clear ho h2
  go_enter Try.func43, Try.ntmps43
  go_wp2_with fail
  refine (HO.out _).mono ?_
  rintro e w1 ⟨rfl, hb1⟩
  have a0 : w1.cell? ⟨W.heap.size, 0, none⟩ = some (.int .u64 (ah : Int)) := keepc hb1 (by simp [go_sem])
  have a1 : w1.cell? ⟨W.heap.size, 1, none⟩ = some (.int .u64 (al : Int)) := keepc hb1 (by simp [go_sem])
  have c0 : w1.cell? ⟨W.heap.size + 1, 0, none⟩ = some (.int .u64 0) := keepc hb1 (by simp [go_sem])
  have c1 : w1.cell? ⟨W.heap.size + 1, 1, none⟩ = some (.int .u64 0) := keepc hb1 (by simp [go_sem])
  have d0 : w1.frozen? ⟨W.heap.size + 1, 0, none⟩ = false := keepf hb1 (v := .int .u64 0) (by simp [go_sem]) (by simp [go_sem])
  have d1 : w1.frozen? ⟨W.heap.size + 1, 1, none⟩ = false := keepf hb1 (v := .int .u64 0) (by simp [go_sem]) (by simp [go_sem])
  have B1 : Below W.heap.size W w1 := (((Below.refl _ _).alloc (Nat.le_refl _) _).alloc (by simp) _).trans (hb1.mono (by simp <;> omega))
  go_wp2_with fail
  refine (HS.out _).mono ?_
  rintro e w2 ⟨rfl, hb2⟩
  have c0' := keepc hb2 c0
  have c1' := keepc hb2 c1
  have d0' := keepf hb2 c0 d0
  have d1' := keepf hb2 c1 d1
  have B2 : Below W.heap.size W w2 := B1.trans (hb2.mono B1.size)
  clear c0 c1 d0 d1 a0 a1
  go_wp2
  refine bodyPost_ret (v := .agg #[.int .u64 (r1 : Nat), .int .u64 (r0 : Nat)]) (by simp [results, Try.results43, go_sem, c0', c1']) rfl ⟨rfl, ?_⟩
  exact (B2.setCell (by simp) _).setCell (by simp) _
end Go.Proofs.Ytakaconhoodigaa
