/- Contract of tower.product, whole. -/
import Derived.Test.YtnecjkdlmecgdaaPTwF
import Derived.Test.YtnecjkdlmecgdaaTwM
import Derived.Test.YtnecjkdlmecgdaaProg
import Derived.WalkKit
import Derived.WalkLawsBesides
import Derived.WalkSpells
import Derived.Deep.QuietTactic
import Derived.BigQuiet
import Derived.Handy
import Derived.Test.YtnecjkdlmecgdaaPTwC
import Derived.Deep.RegionWith
namespace Go.Proofs.Ytnecjkdlmecgdaa
open Go.RowKit
open Tw (px)

set_option maxHeartbeats 2000000 in
set_option maxRecDepth 100000 in
theorem prod_top (ah al bh bl am bm h l m m1 m2 t r1 r0 : Nat) (lb : Int) (hle : ¬ lb < 7)
    (HA : Hid (∀ W, Calls Try.prog 82 #[.agg #[.int .u64 (ah : Int), .int .u64 (al : Int)]] W fun e w' => e = .returned (.int .i64 7) ∧ w' = W.alloc (Obj.cells #[.int .u64 (ah : Int), .int .u64 (al : Int)] 27)))
    (HB : Hid (∀ W, Calls Try.prog 82 #[.agg #[.int .u64 (bh : Int), .int .u64 (bl : Int)]] W fun e w' => e = .returned (.int .i64 lb) ∧ w' = W.alloc (Obj.cells #[.int .u64 (bh : Int), .int .u64 (bl : Int)] 27)))
    (H1 : Hid (∀ W, Calls Try.prog 83 #[.int .i64 6, .int .u64 (ah : Int), .int .u64 (bh : Int)] W fun e w' => e = .returned (.int .u64 (h : Nat)) ∧ Below W.heap.size W w'))
    (H2 : Hid (∀ W, Calls Try.prog 83 #[.int .i64 6, .int .u64 (al : Int), .int .u64 (bl : Int)] W fun e w' => e = .returned (.int .u64 (l : Nat)) ∧ Below W.heap.size W w'))
    (H3 : Hid (∀ W, Calls Try.prog 83 #[.int .i64 6, .int .u64 (am : Int), .int .u64 (bm : Int)] W fun e w' => e = .returned (.int .u64 (m : Nat)) ∧ Below W.heap.size W w'))
    (HX : Hid (∀ W, Calls Try.prog 84 #[.int .u64 (h : Int)] W fun e w' => e = .returned (.int .u64 (t : Nat)) ∧ w' = W))
    (x1 : bits .xor .u64 (ah : Int) (al : Int) = (am : Int)) (x2 : bits .xor .u64 (bh : Int) (bl : Int) = (bm : Int)) (x3 : bits .xor .u64 (m : Int) (h : Int) = (m1 : Int)) (x4 : bits .xor .u64 (m1 : Int) (l : Int) = (m2 : Int)) (x5 : bits .xor .u64 (m2 : Int) (t : Int) = (r1 : Int)) (x6 : bits .xor .u64 (h : Int) (l : Int) = (r0 : Int)) (W : World) :
    Calls Try.prog 67 #[.agg #[.int .u64 (ah : Int), .int .u64 (al : Int)], .agg #[.int .u64 (bh : Int), .int .u64 (bl : Int)]] W fun e w' => e = .returned (.agg #[.int .u64 (r1 : Nat), .int .u64 (r0 : Nat)]) ∧ Below W.heap.size W w' := by
  go_enter Try.func67, Try.ntmps67
  go_upto_region 1 with fail
  go_cut [5, 6] (fun s5 s6 w => s5 = .int .i64 7 ∧ s6 = .int .i64 lb ∧ Box3 W.heap.size ah al bh bl w ∧ Below W.heap.size W w)
  case first =>
    go_region_with (first | (go_at_call_of 82 (Value.int .u64 (ah : Int)); refine (HA.out _).mono ?_; rintro e w' ⟨rfl, rfl⟩) | (go_at_call_of 82 (Value.int .u64 (bh : Int)); refine (HB.out _).mono ?_; rintro e w' ⟨rfl, rfl⟩))
    all_goals
      go_wp2_with fail
      go_meet
      exact ⟨rfl, rfl, box3_new W ah al bh bl _ _ 1, below_new W _ _ _ _ _ 1⟩
  case rest =>
    obtain ⟨rfl, rfl, B, hbw⟩ := hcut
    obtain ⟨k1, k2, k3, k4, k5, k6, k7, k8, k9⟩ := B.facts
    go_wp2_with fail
    refine (H1.out _).mono ?_
    rintro e w1 ⟨rfl, hb1⟩
    have B1 := B.below hb1
    have D1 := hbw.trans (hb1.mono hbw.size)
    clear k1 k2 k3 k4 k5 k6 k7 k8 k9 hle B hbw hb1 HA HB H1
    obtain ⟨k1, k2, k3, k4, k5, k6, k7, k8, k9⟩ := B1.facts
    go_wp2_with fail
    refine (H2.out _).mono ?_
    rintro e w2 ⟨rfl, hb2⟩
    have B2 := B1.below hb2
    have D2 := D1.trans (hb2.mono D1.size)
    clear k1 k2 k3 k4 k5 k6 k7 k8 k9 B1 D1 hb2 H2
    obtain ⟨k1, k2, k3, k4, k5, k6, k7, k8, k9⟩ := B2.facts
    go_wp2_with fail
    refine (H3.out _).mono ?_
    rintro e w3 ⟨rfl, hb3⟩
    have B3 := B2.below hb3
    have D3 := D2.trans (hb3.mono D2.size)
    clear k1 k2 k3 k4 k5 k6 k7 k8 k9 B2 D2 hb3 H3
    obtain ⟨k1, k2, k3, k4, k5, k6, k7, k8, k9⟩ := B3.facts
    go_wp2_with (go_at_call 84; refine (HX.out _).mono ?_; rintro e w4 ⟨rfl, rfl⟩)
    refine bodyPost_ret (v := .agg #[.int .u64 (r1 : Nat), .int .u64 (r0 : Nat)]) (by simp [results, Try.results67, go_sem, *]) rfl ⟨rfl, ?_⟩
    exact (D3.setCell (by simp <;> omega) _).setCell (by simp <;> omega) _

theorem lvl_cases (hi lo : Nat) : (hi ≠ 0 ∧ lvl hi lo = 7) ∨ (hi = 0 ∧ (lvl hi lo = 0 ∨ lvl hi lo = 1 ∨ lvl hi lo = 2 ∨ lvl hi lo = 3 ∨ lvl hi lo = 4 ∨ lvl hi lo = 5 ∨ lvl hi lo = 6)) := by
  unfold lvl
  by_cases h : hi = 0
  · right
    refine ⟨h, ?_⟩
    rw [if_neg (by simpa using h)]
    repeat' split
    all_goals omega
  · left
    exact ⟨h, if_pos h⟩
theorem lvl_lim (lo : Nat) (h : lo < 2 ^ 64) : lo < lim (lvl 0 lo) := by
  unfold lvl
  simp only [ne_eq, not_true_eq_false, if_false]
  repeat' split
  all_goals (simp [lim]; omega)
theorem mixed (ah al bh bl : Nat) : (px (bh ^^^ bl) (ah ^^^ al) ^^^ px bh ah) ^^^ px bl al = px ah bl ^^^ px al bh := by
  rw [Tw.px_lin, Tw.px_comm _ ah, Tw.px_lin, Tw.px_comm _ al, Tw.px_lin, Tw.px_comm bh ah, Tw.px_comm bl al]
  apply Nat.eq_of_testBit_eq
  intro i
  simp only [Nat.testBit_xor]
  cases (px ah bh).testBit i <;> cases (px ah bl).testBit i <;> cases (px al bh).testBit i <;> cases (px al bl).testBit i <;> rfl
/-- tower.product is the product. -/
theorem product_any (ah al bh bl : Nat) (h1 : ah < 2 ^ 64) (h2 : al < 2 ^ 64) (h3 : bh < 2 ^ 64) (h4 : bl < 2 ^ 64) (W : World) :
    Calls Try.prog 67 #[.agg #[.int .u64 (ah : Int), .int .u64 (al : Int)], .agg #[.int .u64 (bh : Int), .int .u64 (bl : Int)]] W fun e w' => e = .returned (.agg #[.int .u64 (Tw.pmh ah al bh bl : Nat), .int .u64 (Tw.pml ah al bh bl : Nat)]) ∧ Below W.heap.size W w' := by
  have LA := fun W => level_any ah al h2 W
  have LB := fun W => level_any bh bl h4 W
  have z : ∀ x, px 0 x = 0 := fun x => by rw [Tw.px_comm]; exact Tw.px_zero x
  by_cases hle : lvl bh bl < lvl ah al
  · have hb0 : bh = 0 ∧ (lvl bh bl = 0 ∨ lvl bh bl = 1 ∨ lvl bh bl = 2 ∨ lvl bh bl = 3 ∨ lvl bh bl = 4 ∨ lvl bh bl = 5 ∨ lvl bh bl = 6) := by
      rcases lvl_cases bh bl with h | h
      · rcases lvl_cases ah al with h' | h' <;> omega
      · exact h
    obtain ⟨rfl, hl⟩ := hb0
    have e1 : Tw.pmh ah al 0 bl = px bl ah := by unfold Tw.pmh; rw [Tw.px_zero, Tw.px_zero, Tw.px_zero, Nat.xor_zero, Nat.xor_zero, Tw.px_comm]
    have e0 : Tw.pml ah al 0 bl = px bl al := by unfold Tw.pml; rw [Tw.px_zero, Nat.xor_zero, Tw.px_comm]
    rw [e1, e0]
    exact prod_swap ah al 0 bl _ _ _ _ hle (by omega) LA LB (fun W => scaled_any _ ah bl hl h1 (lvl_lim bl h4) W) (fun W => scaled_any _ al bl hl h2 (lvl_lim bl h4) W) W
  · rcases lvl_cases ah al with ⟨hn, h7⟩ | ⟨rfl, hl⟩
    · rw [h7] at LA hle
      have hlim : ∀ x, x < 2 ^ 64 → x < lim 6 := fun x hx => by simp [lim]; omega
      have hx1 : ah ^^^ al < 2 ^ 64 := Nat.xor_lt_two_pow h1 h2
      have hx2 : bh ^^^ bl < 2 ^ 64 := Nat.xor_lt_two_pow h3 h4
      refine prod_top ah al bh bl (ah ^^^ al) (bh ^^^ bl) (px bh ah) (px bl al) (px (bh ^^^ bl) (ah ^^^ al)) _ _ (px 4294967296 (px bh ah)) _ _ _ hle LA LB (fun W => scaled_any 6 ah bh (by omega) h1 (hlim _ h3) W) (fun W => scaled_any 6 al bl (by omega) h2 (hlim _ h4) W) (fun W => scaled_any 6 _ _ (by omega) hx1 (hlim _ hx2) W) (fun W => t6_any _ (Tw.px_lt _ _) W) (u64_xor_nat _ _ h1 h2) (u64_xor_nat _ _ h3 h4) (u64_xor_nat _ _ (Tw.px_lt _ _) (Tw.px_lt _ _)) (u64_xor_nat _ _ (Nat.xor_lt_two_pow (Tw.px_lt _ _) (Tw.px_lt _ _)) (Tw.px_lt _ _)) ?_ ?_ W
      · rw [mixed, u64_xor_nat _ _ (Nat.xor_lt_two_pow (Tw.px_lt _ _) (Tw.px_lt _ _)) (Tw.px_lt _ _), Tw.px_comm bh ah]
        rfl
      · rw [u64_xor_nat _ _ (Tw.px_lt _ _) (Tw.px_lt _ _), Nat.xor_comm, Tw.px_comm bh ah, Tw.px_comm bl al]
        rfl
    · have e1 : Tw.pmh 0 al bh bl = px al bh := by unfold Tw.pmh; rw [z, z, Tw.px_zero, Nat.zero_xor, Nat.xor_zero]
      have e0 : Tw.pml 0 al bh bl = px al bl := by unfold Tw.pml; rw [z, Nat.xor_zero]
      rw [e1, e0]
      exact prod_low 0 al bh bl _ _ _ _ hle (by omega) LA LB (fun W => scaled_any _ bh al hl h3 (lvl_lim al h2) W) (fun W => scaled_any _ bl al hl h4 (lvl_lim al h2) W) W
end Go.Proofs.Ytnecjkdlmecgdaa

/- Contracts of octet.isLevel and octet.Of over the seat's translation. -/
namespace Go.Proofs.Ytnecjkdlmecgdaa
open Go.RowKit

/-- Is there such a level? -/
def levelB (l : Int) : Bool := decide (0 ≤ l) && decide (l ≤ 7)
set_option maxHeartbeats 400000 in
theorem isLevel_any (l : Int) (w : World) : Calls Try.prog 70 #[.int .i64 l] w fun e w' => e = .returned (.bool (levelB l)) ∧ w' = w := by
  by_cases h0 : 0 ≤ l
  · by_cases h7 : l ≤ 7
    · rw [show levelB l = true by simp [levelB, h0, h7]]
      go_enter Try.func70, Try.ntmps70
      go_wp2
      go_ret
      exact ⟨by simp, rfl⟩
    · rw [show levelB l = false by simp [levelB, h7]]
      go_enter Try.func70, Try.ntmps70
      go_wp2
      go_ret
      exact ⟨by simp, rfl⟩
  · rw [show levelB l = false by simp [levelB, h0]]
    go_enter Try.func70, Try.ntmps70
    go_wp2
    go_ret
    exact ⟨by simp, rfl⟩
theorem level_cases (l : Int) (h : levelB l = true) : l = 0 ∨ l = 1 ∨ l = 2 ∨ l = 3 ∨ l = 4 ∨ l = 5 ∨ l = 6 ∨ l = 7 := by
  simp [levelB] at h; omega

/-- Is an element of a level? -/
def ofB (l hi lo : Int) : Bool := levelB l && (decide (l = 7) || (decide (hi = 0) && decide (lo < 2 ^ (2 ^ l.toNat))))

theorem ret_bool {a b : Bool} (h : a = b) : Ending.returned (.bool a) = .returned (.bool b) := by rw [h]

set_option maxHeartbeats 400000 in
theorem of_low (l hi lo : Int) (hl : l = 0 ∨ l = 1 ∨ l = 2 ∨ l = 3 ∨ l = 4 ∨ l = 5 ∨ l = 6) (h0 : 0 ≤ lo) (h1 : lo < 18446744073709551616) (hh : hi = 0) (w : World) : Calls Try.prog 54 #[.int .i64 l, .agg #[.int .u64 hi, .int .u64 lo]] w fun e w' => e = .returned (.bool (ofB l hi lo)) ∧ Below w.heap.size w w' := by
  subst hh
  rcases hl with rfl | rfl | rfl | rfl | rfl | rfl | rfl
  all_goals
    go_enter Try.func54, Try.ntmps54
    go_wp2
    go_quiet (fail)
    go_wp2
    go_ret
    refine ⟨ret_bool ?_, ?_⟩
    rotate_left
    · exact below_drewN ((Below.refl _ _).alloc (Nat.le_refl _) _) _
    rw [Bool.eq_iff_iff]
    simp [ofB, levelB]
    omega
set_option maxHeartbeats 400000 in
theorem of_any (l hi lo : Int) (h0 : 0 ≤ lo) (h1 : lo < 18446744073709551616) (w : World) : Calls Try.prog 54 #[.int .i64 l, .agg #[.int .u64 hi, .int .u64 lo]] w fun e w' => e = .returned (.bool (ofB l hi lo)) ∧ Below w.heap.size w w' := by
  cases h : levelB l
  · have e : ofB l hi lo = false := by simp [ofB, h]
    rw [e]
    go_enter Try.func54, Try.ntmps54
    go_wp2_with (go_at_call 70; refine (isLevel_any _ _).mono ?_; rintro e w1 ⟨rfl, rfl⟩)
    go_ret
    exact ⟨rfl, (Below.refl _ _).alloc (Nat.le_refl _) _⟩
  · by_cases h7 : l = 7
    · subst h7
      rw [show ofB 7 hi lo = true by simp [ofB, levelB]]
      clear h
      go_enter Try.func54, Try.ntmps54
      go_wp2
      go_ret
      exact ⟨rfl, (Below.refl _ _).alloc (Nat.le_refl _) _⟩
    · have hl : l = 0 ∨ l = 1 ∨ l = 2 ∨ l = 3 ∨ l = 4 ∨ l = 5 ∨ l = 6 := by have := level_cases l h; omega
      by_cases hh : hi = 0
      · exact of_low l hi lo hl h0 h1 hh w
      · have e : ofB l hi lo = false := by simp [ofB, h7, hh]
        rw [e]
        have hq : (hi == 0) = false := by simpa using hh
        have h7' : (l == 7) = false := by simpa using h7
        go_enter Try.func54, Try.ntmps54
        go_wp2_with (go_at_call 70; refine (isLevel_any _ _).mono ?_; rintro e w1 ⟨rfl, rfl⟩)
        go_quiet (fail)
        go_wp2
        go_ret
        exact ⟨rfl, below_drewN ((Below.refl _ _).alloc (Nat.le_refl _) _) _⟩

end Go.Proofs.Ytnecjkdlmecgdaa

/- Contracts of tower.square, Add, Square over the seat's translation. -/
namespace Go.Proofs.Ytnecjkdlmecgdaa
open Go.RowKit
open Tw (px)

theorem keepc {W w1 : World} (hb : Below W.heap.size W w1) {b o : Nat} {v : Value} (h : W.cell? ⟨b, o, none⟩ = some v) : w1.cell? ⟨b, o, none⟩ = some v := by
  have hl : b < W.heap.size := by
    rcases Nat.lt_or_ge b W.heap.size with h1 | h1
    · exact h1
    · simp [World.cell?, Array.getElem?_eq_none h1] at h
  rw [hb.cell (p := ⟨b, o, none⟩) hl]; exact h
theorem keepf {W w1 : World} (hb : Below W.heap.size W w1) {b o : Nat} {v : Value} (h : W.cell? ⟨b, o, none⟩ = some v) (hf : W.frozen? ⟨b, o, none⟩ = false) : w1.frozen? ⟨b, o, none⟩ = false := by
  have hl : b < W.heap.size := by
    rcases Nat.lt_or_ge b W.heap.size with h1 | h1
    · exact h1
    · simp [World.cell?, Array.getElem?_eq_none h1] at h
  rw [hb.frozen (p := ⟨b, o, none⟩) hl]; exact hf

set_option maxHeartbeats 400000 in
theorem square_core (ah al h l r1 r0 : Nat) (H1 : Hid (∀ W, Calls Try.prog 87 #[.int .u64 (ah : Int)] W fun e w' => e = .returned (.int .u64 (h : Nat)) ∧ w' = W)) (H0 : Hid (∀ W, Calls Try.prog 87 #[.int .u64 (al : Int)] W fun e w' => e = .returned (.int .u64 (l : Nat)) ∧ w' = W)) (HX : Hid (∀ W, Calls Try.prog 84 #[.int .u64 (h : Int)] W fun e w' => e = .returned (.int .u64 (r1 : Nat)) ∧ w' = W)) (f : bits .xor .u64 (h : Int) (l : Int) = (r0 : Int)) (W : World) :
    Calls Try.prog 71 #[.agg #[.int .u64 (ah : Int), .int .u64 (al : Int)]] W fun e w' => e = .returned (.agg #[.int .u64 (r1 : Nat), .int .u64 (r0 : Nat)]) ∧ Below W.heap.size W w' := by
  go_enter Try.func71, Try.ntmps71
  go_wp2_with fail
  go_quiet ((first | (go_at_call_of 87 (Value.int .u64 (ah : Int)); exact Calls.quiet_of_same (H1.out _)) | (go_at_call_of 87 (Value.int .u64 (al : Int)); exact Calls.quiet_of_same (H0.out _))))
  go_wp2_with (go_at_call 84; refine (HX.out _).mono ?_; rintro e w1 ⟨rfl, rfl⟩)
  refine bodyPost_ret (v := .agg #[.int .u64 (r1 : Nat), .int .u64 (r0 : Nat)]) (by simp [results, Try.results71, go_sem]) rfl ⟨rfl, ?_⟩
  exact ((below_drewN (((Below.refl _ _).alloc (Nat.le_refl _) _).alloc (by simp) _) nq).setCell (by simp) _).setCell (by simp) _
theorem pmh_self (ah al : Nat) : Tw.pmh ah al ah al = px 4294967296 (px ah ah) := by
  unfold Tw.pmh; rw [Tw.px_comm al ah, Nat.xor_self, Nat.zero_xor]
theorem square_any (ah al : Nat) (h1 : ah < 2 ^ 64) (h2 : al < 2 ^ 64) (W : World) :
    Calls Try.prog 71 #[.agg #[.int .u64 (ah : Int), .int .u64 (al : Int)]] W fun e w' => e = .returned (.agg #[.int .u64 (Tw.pmh ah al ah al : Nat), .int .u64 (Tw.pml ah al ah al : Nat)]) ∧ Below W.heap.size W w' := by
  rw [pmh_self]
  refine square_core ah al (px ah ah) (px al al) _ _ (squares_any ah h1) (squares_any al h2) (t6_any _ (Tw.px_lt _ _)) ?_ W
  rw [u64_xor_nat _ _ (Tw.px_lt _ _) (Tw.px_lt _ _), Nat.xor_comm]
  rfl

set_option maxHeartbeats 400000 in
theorem add_core (ah al bh bl r1 r0 : Nat) (f1 : bits .xor .u64 (ah : Int) (bh : Int) = (r1 : Int)) (f0 : bits .xor .u64 (al : Int) (bl : Int) = (r0 : Int)) (W : World) :
    Calls Try.prog 20 #[.agg #[.int .u64 (ah : Int), .int .u64 (al : Int)], .agg #[.int .u64 (bh : Int), .int .u64 (bl : Int)]] W fun e w' => e = .returned (.agg #[.int .u64 (r1 : Nat), .int .u64 (r0 : Nat)]) ∧ Below W.heap.size W w' := by
  go_enter Try.func20, Try.ntmps20
  go_wp2
  refine bodyPost_ret (v := .agg #[.int .u64 (r1 : Nat), .int .u64 (r0 : Nat)]) (by simp [results, Try.results20, go_sem]) rfl ⟨rfl, ?_⟩
  go_grown
theorem add_any (ah al bh bl : Nat) (h1 : ah < 2 ^ 64) (h2 : al < 2 ^ 64) (h3 : bh < 2 ^ 64) (h4 : bl < 2 ^ 64) (W : World) :
    Calls Try.prog 20 #[.agg #[.int .u64 (ah : Int), .int .u64 (al : Int)], .agg #[.int .u64 (bh : Int), .int .u64 (bl : Int)]] W fun e w' => e = .returned (.agg #[.int .u64 (ah ^^^ bh : Nat), .int .u64 (al ^^^ bl : Nat)]) ∧ Below W.heap.size W w' :=
  add_core ah al bh bl _ _ (u64_xor_nat _ _ h1 h3) (u64_xor_nat _ _ h2 h4) W

set_option maxHeartbeats 400000 in
theorem sq_ok (l : Int) (ah al r1 r0 : Nat) (ho : ofB l ah al = true) (h2 : al < 2 ^ 64) (HS : Hid (∀ W, Calls Try.prog 71 #[.agg #[.int .u64 (ah : Int), .int .u64 (al : Int)]] W fun e w' => e = .returned (.agg #[.int .u64 (r1 : Nat), .int .u64 (r0 : Nat)]) ∧ Below W.heap.size W w')) (W : World) :
    Calls Try.prog 55 #[.int .i64 l, .agg #[.int .u64 (ah : Int), .int .u64 (al : Int)]] W fun e w' => e = .returned (.agg #[.int .u64 (r1 : Nat), .int .u64 (r0 : Nat)]) ∧ Below W.heap.size W w' := by
  have HO : Hid (∀ W, Calls Try.prog 54 #[.int .i64 l, .agg #[.int .u64 (ah : Int), .int .u64 (al : Int)]] W fun e w' => e = .returned (.bool true) ∧ Below W.heap.size W w') := fun W => by
    have := of_any l ah al (by omega) (by omega) W
    rwa [ho] at this
  clear ho h2
  go_enter Try.func55, Try.ntmps55
  go_wp2_with fail
  refine (HO.out _).mono ?_
  rintro e w1 ⟨rfl, hb1⟩
  have a0 : w1.cell? ⟨W.heap.size, 0, none⟩ = some (.int .u64 (ah : Int)) := keepc hb1 (by simp [go_sem])
  have a1 : w1.cell? ⟨W.heap.size, 1, none⟩ = some (.int .u64 (al : Int)) := keepc hb1 (by simp [go_sem])
  have c0 : w1.cell? ⟨W.heap.size + 1, 0, none⟩ = some (.int .u64 0) := keepc hb1 (by simp [go_sem])
  have c1 : w1.cell? ⟨W.heap.size + 1, 1, none⟩ = some (.int .u64 0) := keepc hb1 (by simp [go_sem])
  have d0 : w1.frozen? ⟨W.heap.size + 1, 0, none⟩ = false := keepf hb1 (v := .int .u64 0) (by simp [go_sem]) (by simp [go_sem])
  have d1 : w1.frozen? ⟨W.heap.size + 1, 1, none⟩ = false := keepf hb1 (v := .int .u64 0) (by simp [go_sem]) (by simp [go_sem])
  have B1 : Below W.heap.size W w1 := (((Below.refl _ _).alloc (Nat.le_refl _) _).alloc (by simp) _).trans (hb1.mono (by simp <;> omega))
  go_wp2_with fail
  refine (HS.out _).mono ?_
  rintro e w2 ⟨rfl, hb2⟩
  have c0' := keepc hb2 c0
  have c1' := keepc hb2 c1
  have d0' := keepf hb2 c0 d0
  have d1' := keepf hb2 c1 d1
  have B2 : Below W.heap.size W w2 := B1.trans (hb2.mono B1.size)
  clear c0 c1 d0 d1 a0 a1
  go_wp2
  refine bodyPost_ret (v := .agg #[.int .u64 (r1 : Nat), .int .u64 (r0 : Nat)]) (by simp [results, Try.results55, go_sem, c0', c1']) rfl ⟨rfl, ?_⟩
  exact (B2.setCell (by simp) _).setCell (by simp) _
end Go.Proofs.Ytnecjkdlmecgdaa

/- Contracts of tower.Mul, Square, One, X, Bit and of steeplelaw02.awake over the seat's translation. -/
namespace Go.Proofs.Ytnecjkdlmecgdaa
open Go.RowKit
open Tw (px)

theorem box3_three (W : World) (ah al bh bl : Nat) : Box3 W.heap.size ah al bh bl (((W.alloc (Obj.cells #[.int .u64 (ah : Int), .int .u64 (al : Int)] 27)).alloc (Obj.cells #[.int .u64 (bh : Int), .int .u64 (bl : Int)] 27)).alloc (Obj.cells #[.int .u64 0, .int .u64 0] 27)) := by
  refine ⟨?_, ?_, ?_⟩
  · show (((W.heap.push _).push _).push _)[W.heap.size]? = _
    rw [push_old _ _ _ (by simp <;> omega), push_old _ _ _ (by simp <;> omega)]
    exact push_new _ _ _ rfl
  · show (((W.heap.push _).push _).push _)[W.heap.size + 1]? = _
    rw [push_old _ _ _ (by simp <;> omega)]
    exact push_new _ _ _ (by simp)
  · show (((W.heap.push _).push _).push _)[W.heap.size + 1 + 1]? = _
    exact push_new _ _ _ (by simp)

set_option maxHeartbeats 400000 in
theorem mul_ok (l : Int) (ah al bh bl r1 r0 : Nat) (ha : ofB l ah al = true) (hb : ofB l bh bl = true) (h2 : al < 2 ^ 64) (h4 : bl < 2 ^ 64) (HP : Hid (∀ W, Calls Try.prog 67 #[.agg #[.int .u64 (ah : Int), .int .u64 (al : Int)], .agg #[.int .u64 (bh : Int), .int .u64 (bl : Int)]] W fun e w' => e = .returned (.agg #[.int .u64 (r1 : Nat), .int .u64 (r0 : Nat)]) ∧ Below W.heap.size W w')) (W : World) :
    Calls Try.prog 51 #[.int .i64 l, .agg #[.int .u64 (ah : Int), .int .u64 (al : Int)], .agg #[.int .u64 (bh : Int), .int .u64 (bl : Int)]] W fun e w' => e = .returned (.agg #[.int .u64 (r1 : Nat), .int .u64 (r0 : Nat)]) ∧ Below W.heap.size W w' := by
  have HO : Hid (∀ W, Calls Try.prog 54 #[.int .i64 l, .agg #[.int .u64 (ah : Int), .int .u64 (al : Int)]] W fun e w' => e = .returned (.bool true) ∧ Below W.heap.size W w') := fun W => by
    have := of_any l ah al (by omega) (by omega) W
    rwa [ha] at this
  have HO2 : Hid (∀ W, Calls Try.prog 54 #[.int .i64 l, .agg #[.int .u64 (bh : Int), .int .u64 (bl : Int)]] W fun e w' => e = .returned (.bool true) ∧ Below W.heap.size W w') := fun W => by
    have := of_any l bh bl (by omega) (by omega) W
    rwa [hb] at this
  clear ha hb h2 h4
  go_enter Try.func51, Try.ntmps51
  go_wp2_with fail
  refine (HO.out _).mono ?_
  rintro e w1 ⟨rfl, hb1⟩
  have B1 : Box3 W.heap.size ah al bh bl w1 := (box3_three W ah al bh bl).below hb1
  have D1 : Below W.heap.size W w1 := ((((Below.refl _ _).alloc (Nat.le_refl _) _).alloc (by simp <;> omega) _).alloc (by simp <;> omega) _).trans (hb1.mono (by simp <;> omega))
  obtain ⟨k1, k2, k3, k4, k5, k6, k7, k8, k9⟩ := B1.facts
  go_wp2_with fail
  refine (HO2.out _).mono ?_
  rintro e w2 ⟨rfl, hb2⟩
  have B2 := B1.below hb2
  have D2 := D1.trans (hb2.mono D1.size)
  clear k1 k2 k3 k4 k5 k6 k7 k8 k9 B1 D1 hb1 hb2 HO HO2
  obtain ⟨k1, k2, k3, k4, k5, k6, k7, k8, k9⟩ := B2.facts
  go_wp2_with fail
  refine (HP.out _).mono ?_
  rintro e w3 ⟨rfl, hb3⟩
  have B3 := B2.below hb3
  have D3 := D2.trans (hb3.mono D2.size)
  clear k1 k2 k3 k4 k5 k6 k7 k8 k9 B2 D2 hb3 HP
  obtain ⟨k1, k2, k3, k4, k5, k6, k7, k8, k9⟩ := B3.facts
  go_wp2
  refine bodyPost_ret (v := .agg #[.int .u64 (r1 : Nat), .int .u64 (r0 : Nat)]) (by simp [results, Try.results51, go_sem, *]) rfl ⟨rfl, ?_⟩
  exact (D3.setCell (by simp <;> omega) _).setCell (by simp <;> omega) _
/-- The product of two elements of a level. -/
theorem mul_of (l : Int) (ah al bh bl : Nat) (ha : ofB l ah al = true) (hb : ofB l bh bl = true) (h1 : ah < 2 ^ 64) (h2 : al < 2 ^ 64) (h3 : bh < 2 ^ 64) (h4 : bl < 2 ^ 64) (W : World) :
    Calls Try.prog 51 #[.int .i64 l, .agg #[.int .u64 (ah : Int), .int .u64 (al : Int)], .agg #[.int .u64 (bh : Int), .int .u64 (bl : Int)]] W fun e w' => e = .returned (.agg #[.int .u64 (Tw.pmh ah al bh bl : Nat), .int .u64 (Tw.pml ah al bh bl : Nat)]) ∧ Below W.heap.size W w' :=
  mul_ok l ah al bh bl _ _ ha hb h2 h4 (fun W => product_any ah al bh bl h1 h2 h3 h4 W) W
/-- The square of an element of a level. -/
theorem square_of (l : Int) (ah al : Nat) (ha : ofB l ah al = true) (h1 : ah < 2 ^ 64) (h2 : al < 2 ^ 64) (W : World) :
    Calls Try.prog 55 #[.int .i64 l, .agg #[.int .u64 (ah : Int), .int .u64 (al : Int)]] W fun e w' => e = .returned (.agg #[.int .u64 (Tw.pmh ah al ah al : Nat), .int .u64 (Tw.pml ah al ah al : Nat)]) ∧ Below W.heap.size W w' :=
  sq_ok l ah al _ _ ha h2 (fun W => square_any ah al h1 h2 W) W

theorem mul122 (W : World) : Calls Try.prog 51 #[.int .i64 1, .agg #[.int .u64 0, .int .u64 2], .agg #[.int .u64 0, .int .u64 2]] W fun e w' => e = .returned (.agg #[.int .u64 0, .int .u64 3]) ∧ Below W.heap.size W w' := by
  have h := mul_of 1 0 2 0 2 (by decide) (by decide) (by decide) (by decide) (by decide) (by decide) W
  rw [show Tw.pmh 0 2 0 2 = 0 by decide +kernel, show Tw.pml 0 2 0 2 = 3 by decide +kernel] at h
  exact h
theorem mul244 (W : World) : Calls Try.prog 51 #[.int .i64 2, .agg #[.int .u64 0, .int .u64 4], .agg #[.int .u64 0, .int .u64 4]] W fun e w' => e = .returned (.agg #[.int .u64 0, .int .u64 9]) ∧ Below W.heap.size W w' := by
  have h := mul_of 2 0 4 0 4 (by decide) (by decide) (by decide) (by decide) (by decide) (by decide) W
  rw [show Tw.pmh 0 4 0 4 = 0 by decide +kernel, show Tw.pml 0 4 0 4 = 9 by decide +kernel] at h
  exact h
end Go.Proofs.Ytnecjkdlmecgdaa

/- Contract of steeplelaw02.of over the seat's translation: elements cut down to a level. -/
namespace Go.Proofs.Ytnecjkdlmecgdaa
open Go.RowKit

/-- The cells of elements, one behind the other. -/
def flat (es : List (Nat × Nat)) : List Value := es.flatMap fun e => [.int .u64 (e.1 : Int), .int .u64 (e.2 : Int)]
theorem flat_len (es : List (Nat × Nat)) : (flat es).length = es.length * 2 := by
  induction es with
  | nil => rfl
  | cons e l ih => simp [flat] at ih ⊢; omega
theorem flat_snoc (es : List (Nat × Nat)) (e : Nat × Nat) : flat (es ++ [e]) = flat es ++ [.int .u64 (e.1 : Int), .int .u64 (e.2 : Int)] := by simp [flat]
theorem take_sn (es : List (Nat × Nat)) (k : Nat) (h : k < es.length) : es.take (k + 1) = es.take k ++ [es.getD k (0, 0)] := by
  rw [List.take_succ_eq_append_getElem h]; simp [h]

theorem info_elem : ∃ i, Try.prog.info? 27 = some i ∧ i.zero = some (.agg #[.int .u64 0, .int .u64 0]) ∧ i.size = 2 ∧ i.bytes = 16 := by
  have h : (Try.prog.info? 27).map (fun i => (i.zero, i.size, i.bytes)) = some (some (.agg #[.int .u64 0, .int .u64 0]), 2, 16) := by kernel_rfl
  obtain ⟨i, hi, he⟩ := Option.map_eq_some_iff.1 h
  simp only [Prod.mk.injEq] at he
  exact ⟨i, hi, he.1, he.2.1, he.2.2⟩

theorem own_below {w w' : World} {base : Nat} {e : TypeId} {size : Nat} {v : Value} {n : Nat} {xs : List Value} (h : w.ownsRow base e size v n xs) (hb : Below w.heap.size w w') : w'.ownsRow base e size v n xs :=
  h.kept (row := none) ⟨hb.os, hb.tape, hb.output, hb.size, fun k hk _ => hb.block k hk⟩ (by cases v.ownBlock <;> simp)

/-- An element cut down to a level. -/
def cutE (k : Nat) (e : Nat × Nat) : Nat × Nat := (if k < 7 then 0 else e.1, if k < 6 then e.2 % 2 ^ 2 ^ k else e.2)
theorem mask_nat (k x M : Nat) (hM : M + 1 = 2 ^ 2 ^ k) (hM2 : M < 2 ^ 64) (hx : x < 2 ^ 64) : bits .and .u64 (x : Int) (M : Int) = ((x % 2 ^ 2 ^ k : Nat) : Int) := by
  rw [u64_and_nat _ _ hx hM2, show M = 2 ^ 2 ^ k - 1 by omega, Nat.and_two_pow_sub_one_eq_mod]
theorem getD_map {es : List (Nat × Nat)} (f : Nat × Nat → Nat × Nat) {i : Nat} (h : i < es.length) : (es.map f).getD i (0, 0) = f (es.getD i (0, 0)) := by
  simp [h]
theorem getD_lt {es : List (Nat × Nat)} (hes : ∀ e ∈ es, e.2 < 2 ^ 64) (i : Nat) : (es.getD i (0, 0)).2 < 2 ^ 64 := by
  by_cases h : i < es.length
  · rw [show es.getD i (0, 0) = es[i] by simp [h]]; exact hes _ (List.getElem_mem h)
  · rw [show es.getD i (0, 0) = (0, 0) by simp [List.getD, List.getElem?_eq_none (Nat.not_lt.1 h)]]; decide
end Go.Proofs.Ytnecjkdlmecgdaa
