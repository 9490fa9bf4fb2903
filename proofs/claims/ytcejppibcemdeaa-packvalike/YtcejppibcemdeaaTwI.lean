/- Contract of tower.product, whole. -/
import Derived.Test.YtcejppibcemdeaaTwF
import Derived.Test.YtcejppibcemdeaaTwM
namespace Go.Proofs.Ytcejppibcemdeaa
open Go.RowKit
open Tw (px)

set_option maxHeartbeats 2000000 in
set_option maxRecDepth 100000 in
theorem prod_top (ah al bh bl am bm h l m m1 m2 t r1 r0 : Nat) (lb : Int) (hle : ¬ lb < 7)
    (HA : Hid (∀ W, Calls Try.prog 71 #[.agg #[.int .u64 (ah : Int), .int .u64 (al : Int)]] W fun e w' => e = .returned (.int .i64 7) ∧ w' = W.alloc (Obj.cells #[.int .u64 (ah : Int), .int .u64 (al : Int)] 24)))
    (HB : Hid (∀ W, Calls Try.prog 71 #[.agg #[.int .u64 (bh : Int), .int .u64 (bl : Int)]] W fun e w' => e = .returned (.int .i64 lb) ∧ w' = W.alloc (Obj.cells #[.int .u64 (bh : Int), .int .u64 (bl : Int)] 24)))
    (H1 : Hid (∀ W, Calls Try.prog 72 #[.int .i64 6, .int .u64 (ah : Int), .int .u64 (bh : Int)] W fun e w' => e = .returned (.int .u64 (h : Nat)) ∧ Below W.heap.size W w'))
    (H2 : Hid (∀ W, Calls Try.prog 72 #[.int .i64 6, .int .u64 (al : Int), .int .u64 (bl : Int)] W fun e w' => e = .returned (.int .u64 (l : Nat)) ∧ Below W.heap.size W w'))
    (H3 : Hid (∀ W, Calls Try.prog 72 #[.int .i64 6, .int .u64 (am : Int), .int .u64 (bm : Int)] W fun e w' => e = .returned (.int .u64 (m : Nat)) ∧ Below W.heap.size W w'))
    (HX : Hid (∀ W, Calls Try.prog 73 #[.int .u64 (h : Int)] W fun e w' => e = .returned (.int .u64 (t : Nat)) ∧ w' = W))
    (x1 : bits .xor .u64 (ah : Int) (al : Int) = (am : Int)) (x2 : bits .xor .u64 (bh : Int) (bl : Int) = (bm : Int)) (x3 : bits .xor .u64 (m : Int) (h : Int) = (m1 : Int)) (x4 : bits .xor .u64 (m1 : Int) (l : Int) = (m2 : Int)) (x5 : bits .xor .u64 (m2 : Int) (t : Int) = (r1 : Int)) (x6 : bits .xor .u64 (h : Int) (l : Int) = (r0 : Int)) (W : World) :
    Calls Try.prog 61 #[.agg #[.int .u64 (ah : Int), .int .u64 (al : Int)], .agg #[.int .u64 (bh : Int), .int .u64 (bl : Int)]] W fun e w' => e = .returned (.agg #[.int .u64 (r1 : Nat), .int .u64 (r0 : Nat)]) ∧ Below W.heap.size W w' := by
  go_enter Try.func61, Try.ntmps61
  go_upto_region 1 with fail
  go_cut [5, 6] (fun s5 s6 w => s5 = .int .i64 7 ∧ s6 = .int .i64 lb ∧ Box3 W.heap.size ah al bh bl w ∧ Below W.heap.size W w)
  case first =>
    go_region_with (first | (go_at_call_of 71 (Value.int .u64 (ah : Int)); refine (HA.out _).mono ?_; rintro e w' ⟨rfl, rfl⟩) | (go_at_call_of 71 (Value.int .u64 (bh : Int)); refine (HB.out _).mono ?_; rintro e w' ⟨rfl, rfl⟩))
    all_goals
      go_wp2_with fail
      go_meet
      exact ⟨rfl, rfl, box3_new W ah al bh bl _ _ 1, below_new W _ _ _ _ _ 1⟩
  case rest =>
    obtain ⟨rfl, rfl, B, hbw⟩ := hcut
    obtain ⟨k1, k2, k3, k4, k5, k6, k7, k8, k9⟩ := B.facts
    go_wp2_with fail
    refine (H1.out _).mono ?_
    rintro e w1 ⟨rfl, hb1⟩
    have B1 := B.below hb1
    have D1 := hbw.trans (hb1.mono hbw.size)
    clear k1 k2 k3 k4 k5 k6 k7 k8 k9 hle B hbw hb1 HA HB H1
    obtain ⟨k1, k2, k3, k4, k5, k6, k7, k8, k9⟩ := B1.facts
    go_wp2_with fail
    refine (H2.out _).mono ?_
    rintro e w2 ⟨rfl, hb2⟩
    have B2 := B1.below hb2
    have D2 := D1.trans (hb2.mono D1.size)
    clear k1 k2 k3 k4 k5 k6 k7 k8 k9 B1 D1 hb2 H2
    obtain ⟨k1, k2, k3, k4, k5, k6, k7, k8, k9⟩ := B2.facts
    go_wp2_with fail
    refine (H3.out _).mono ?_
    rintro e w3 ⟨rfl, hb3⟩
    have B3 := B2.below hb3
    have D3 := D2.trans (hb3.mono D2.size)
    clear k1 k2 k3 k4 k5 k6 k7 k8 k9 B2 D2 hb3 H3
    obtain ⟨k1, k2, k3, k4, k5, k6, k7, k8, k9⟩ := B3.facts
    go_wp2_with (go_at_call 73; refine (HX.out _).mono ?_; rintro e w4 ⟨rfl, rfl⟩)
    refine bodyPost_ret (v := .agg #[.int .u64 (r1 : Nat), .int .u64 (r0 : Nat)]) (by simp [results, Try.results61, go_sem, *]) rfl ⟨rfl, ?_⟩
    exact (D3.setCell (by simp <;> omega) _).setCell (by simp <;> omega) _

theorem lvl_cases (hi lo : Nat) : (hi ≠ 0 ∧ lvl hi lo = 7) ∨ (hi = 0 ∧ (lvl hi lo = 0 ∨ lvl hi lo = 1 ∨ lvl hi lo = 2 ∨ lvl hi lo = 3 ∨ lvl hi lo = 4 ∨ lvl hi lo = 5 ∨ lvl hi lo = 6)) := by
  unfold lvl
  by_cases h : hi = 0
  · right
    refine ⟨h, ?_⟩
    rw [if_neg (by simpa using h)]
    repeat' split
    all_goals omega
  · left
    exact ⟨h, if_pos h⟩
theorem lvl_lim (lo : Nat) (h : lo < 2 ^ 64) : lo < lim (lvl 0 lo) := by
  unfold lvl
  simp only [ne_eq, not_true_eq_false, if_false]
  repeat' split
  all_goals (simp [lim]; omega)
theorem mixed (ah al bh bl : Nat) : (px (bh ^^^ bl) (ah ^^^ al) ^^^ px bh ah) ^^^ px bl al = px ah bl ^^^ px al bh := by
  rw [Tw.px_lin, Tw.px_comm _ ah, Tw.px_lin, Tw.px_comm _ al, Tw.px_lin, Tw.px_comm bh ah, Tw.px_comm bl al]
  apply Nat.eq_of_testBit_eq
  intro i
  simp only [Nat.testBit_xor]
  cases (px ah bh).testBit i <;> cases (px ah bl).testBit i <;> cases (px al bh).testBit i <;> cases (px al bl).testBit i <;> rfl
/-- tower.product is the product. -/
theorem product_any (ah al bh bl : Nat) (h1 : ah < 2 ^ 64) (h2 : al < 2 ^ 64) (h3 : bh < 2 ^ 64) (h4 : bl < 2 ^ 64) (W : World) :
    Calls Try.prog 61 #[.agg #[.int .u64 (ah : Int), .int .u64 (al : Int)], .agg #[.int .u64 (bh : Int), .int .u64 (bl : Int)]] W fun e w' => e = .returned (.agg #[.int .u64 (Tw.pmh ah al bh bl : Nat), .int .u64 (Tw.pml ah al bh bl : Nat)]) ∧ Below W.heap.size W w' := by
  have LA := fun W => level_any ah al h2 W
  have LB := fun W => level_any bh bl h4 W
  have z : ∀ x, px 0 x = 0 := fun x => by rw [Tw.px_comm]; exact Tw.px_zero x
  by_cases hle : lvl bh bl < lvl ah al
  · have hb0 : bh = 0 ∧ (lvl bh bl = 0 ∨ lvl bh bl = 1 ∨ lvl bh bl = 2 ∨ lvl bh bl = 3 ∨ lvl bh bl = 4 ∨ lvl bh bl = 5 ∨ lvl bh bl = 6) := by
      rcases lvl_cases bh bl with h | h
      · rcases lvl_cases ah al with h' | h' <;> omega
      · exact h
    obtain ⟨rfl, hl⟩ := hb0
    have e1 : Tw.pmh ah al 0 bl = px bl ah := by unfold Tw.pmh; rw [Tw.px_zero, Tw.px_zero, Tw.px_zero, Nat.xor_zero, Nat.xor_zero, Tw.px_comm]
    have e0 : Tw.pml ah al 0 bl = px bl al := by unfold Tw.pml; rw [Tw.px_zero, Nat.xor_zero, Tw.px_comm]
    rw [e1, e0]
    exact prod_swap ah al 0 bl _ _ _ _ hle (by omega) LA LB (fun W => scaled_any _ ah bl hl h1 (lvl_lim bl h4) W) (fun W => scaled_any _ al bl hl h2 (lvl_lim bl h4) W) W
  · rcases lvl_cases ah al with ⟨hn, h7⟩ | ⟨rfl, hl⟩
    · rw [h7] at LA hle
      have hlim : ∀ x, x < 2 ^ 64 → x < lim 6 := fun x hx => by simp [lim]; omega
      have hx1 : ah ^^^ al < 2 ^ 64 := Nat.xor_lt_two_pow h1 h2
      have hx2 : bh ^^^ bl < 2 ^ 64 := Nat.xor_lt_two_pow h3 h4
      refine prod_top ah al bh bl (ah ^^^ al) (bh ^^^ bl) (px bh ah) (px bl al) (px (bh ^^^ bl) (ah ^^^ al)) _ _ (px 4294967296 (px bh ah)) _ _ _ hle LA LB (fun W => scaled_any 6 ah bh (by omega) h1 (hlim _ h3) W) (fun W => scaled_any 6 al bl (by omega) h2 (hlim _ h4) W) (fun W => scaled_any 6 _ _ (by omega) hx1 (hlim _ hx2) W) (fun W => t6_any _ (Tw.px_lt _ _) W) (u64_xor_nat _ _ h1 h2) (u64_xor_nat _ _ h3 h4) (u64_xor_nat _ _ (Tw.px_lt _ _) (Tw.px_lt _ _)) (u64_xor_nat _ _ (Nat.xor_lt_two_pow (Tw.px_lt _ _) (Tw.px_lt _ _)) (Tw.px_lt _ _)) ?_ ?_ W
      · rw [mixed, u64_xor_nat _ _ (Nat.xor_lt_two_pow (Tw.px_lt _ _) (Tw.px_lt _ _)) (Tw.px_lt _ _), Tw.px_comm bh ah]
        rfl
      · rw [u64_xor_nat _ _ (Tw.px_lt _ _) (Tw.px_lt _ _), Nat.xor_comm, Tw.px_comm bh ah, Tw.px_comm bl al]
        rfl
    · have e1 : Tw.pmh 0 al bh bl = px al bh := by unfold Tw.pmh; rw [z, z, Tw.px_zero, Nat.zero_xor, Nat.xor_zero]
      have e0 : Tw.pml 0 al bh bl = px al bl := by unfold Tw.pml; rw [z, Nat.xor_zero]
      rw [e1, e0]
      exact prod_low 0 al bh bl _ _ _ _ hle (by omega) LA LB (fun W => scaled_any _ bh al hl h3 (lvl_lim al h2) W) (fun W => scaled_any _ bl al hl h4 (lvl_lim al h2) W) W
end Go.Proofs.Ytcejppibcemdeaa
