/- Contracts of Box and Times; bytes, their inverses, products and boxes as they are reckoned; the document's Times and Box; the law's awake; over the seat's translation. -/
import Derived.Test.YtopmkooegpaeaaaGreatPmD
namespace Go.Proofs.YtopmkooegpaeaaaGreat
open Go.RowKit

theorem invv_bit (b : Nat) (hb : b < 2) : invv 3 (0, b) = (0, b) := by
  have h := Tw.iv_bit (al := b) hb
  have : b = 0 ∨ b = 1 := by omega
  unfold invv
  rw [if_pos (by rcases this with rfl | rfl <;> decide)]
  exact Prod.ext h.1 h.2
theorem bx_0 : bx 0 = 99 := by
  unfold bx binv
  rw [invv_bit 0 (by decide)]
  decide
theorem bx_1 : bx 1 = 124 := by
  unfold bx binv
  rw [invv_bit 1 (by decide)]
  decide
theorem tmv_21 : tmv 2 1 = 2 := by
  unfold tmv tmul
  rw [if_pos (by decide), mulv_of (by decide) (by decide), Tw.pm_one' (0, 2) (by decide) (by decide)]
  rfl


theorem of_byte {b : Nat} (hb : b < 256) : ofB 3 ((0 : Nat) : Int) (b : Int) = true := (ofB_iff 3 0 b (by decide)).2 (Or.inr ⟨rfl, hb⟩)
theorem binv_eq {b : Nat} (hb : b < 256) : binv b = Tw.ik 3 b ∧ (invv 3 (0, b)).1 = 0 ∧ (invv 3 (0, b)).2 = Tw.ik 3 b := by
  have h := Tw.iv_low 3 b (by decide) hb
  have hl := Tw.ik_lt 3 b
  have e : invv 3 (0, b) = (0, Tw.ik 3 b) := by
    unfold invv
    rw [if_pos (of_byte hb)]
    exact Prod.ext h.1 h.2
  unfold binv
  rw [e]
  exact ⟨Nat.mod_eq_of_lt (show Tw.ik 3 b < 256 from hl), rfl, rfl⟩
theorem tmul_eq {k b : Nat} (hk : k < 256) (hb : b < 256) : tmul k b = Tw.px k b ∧ Tw.px k b < 256 := by
  have hl := Tw.px_closed 3 k b (by decide) hk hb
  unfold tmul
  rw [mulv_of (l := 3) (a := (0, k)) (b := (0, b)) (of_byte hk) (of_byte hb)]
  have e : (Tw.pm (0, k) (0, b)).2 = Tw.px k b := Tw.pml_low k b
  rw [e]
  exact ⟨Nat.mod_eq_of_lt hl, hl⟩
theorem ik_ik {b : Nat} (hb : b < 256) : Tw.ik 3 (Tw.ik 3 b) = b := by
  have all : ∀ j : Fin 256, Tw.ik 3 (Tw.ik 3 j.val) = j.val := by decide +kernel
  exact all ⟨b, hb⟩
/-- Back through the turns of the box. -/
def unturn (y : Nat) : Nat := rl8 (y ^^^ 99) 1 ^^^ rl8 (y ^^^ 99) 3 ^^^ rl8 (y ^^^ 99) 6
theorem unturn_boxp {x : Nat} (hx : x < 256) : unturn (boxp x 4) = x := by
  have all : ∀ j : Fin 256, unturn (boxp j.val 4) = j.val := by decide +kernel
  exact all ⟨x, hx⟩
theorem boxp_unturn {x : Nat} (hx : x < 256) : boxp (unturn x) 4 = x ∧ unturn x < 256 := by
  have all : ∀ j : Fin 256, boxp (unturn j.val) 4 = j.val ∧ unturn j.val < 256 := by decide +kernel
  exact all ⟨x, hx⟩
/-- The byte whose box it is. -/
def unbx (y : Nat) : Nat := Tw.ik 3 (unturn y)
theorem unbx_bx {b : Nat} (hb : b < 256) : unbx (bx b) = b := by
  unfold unbx bx
  rw [(binv_eq hb).1, unturn_boxp (Tw.ik_lt 3 b), ik_ik hb]
theorem bx_unbx {y : Nat} (hy : y < 256) : bx (unbx y) = y ∧ unbx y < 256 := by
  have h := boxp_unturn hy
  have hl : unbx y < 256 := Tw.ik_lt 3 _
  refine ⟨?_, hl⟩
  unfold bx
  rw [(binv_eq hl).1]
  unfold unbx
  rw [ik_ik h.2, h.1]
theorem bx_inj {a b : Nat} (ha : a < 256) (hb : b < 256) (h : bx a = bx b) : a = b := by
  rw [← unbx_bx ha, ← unbx_bx hb, h]
theorem ubp_bx : ∀ n x, n ≤ 256 → x < n → ubp n (bx x) = x
  | 0, _, _, h => by omega
  | n + 1, x, hn, hx => by
    unfold ubp
    by_cases e : x = n
    · rw [if_pos (by rw [e]), e]
    · rw [if_neg (fun h => e (bx_inj (by omega) (by omega) h))]
      exact ubp_bx n x (by omega) (by omega)
theorem ubp_eq {y : Nat} (hy : y < 256) : ubp 256 y = unbx y := by
  have h := bx_unbx hy
  have := ubp_bx 256 (unbx y) (Nat.le_refl _) h.2
  rwa [h.1] at this


theorem field_lo (a b : Int) (w : World) : (Instr.field 83 (.agg #[.int .u64 a, .int .u64 b]) 1).run Tryz.prog w = .ok (.int .u64 b) w := by
  simp [Instr.field, asAgg, go_sem]
set_option maxRecDepth 100000 in
theorem rtim_any (k b : Nat) (hk : k < 256) (hb : b < 256) : Ret 29 #[.int .i64 (k : Int), .int .i64 (b : Int)] (.int .i64 ((tmul k b : Nat) : Int)) := by
  intro W
  have ht := tmul_eq hk hb
  have HP : Hid (Ret 57 #[.agg #[.int .u64 0, .int .u64 (k : Int)], .agg #[.int .u64 0, .int .u64 (b : Int)]] (.agg #[.int .u64 (Tw.pmh 0 k 0 b : Nat), .int .u64 ((tmul k b : Nat) : Int)])) := by
    have := rproduct_any 0 k 0 b (by decide) (by omega) (by decide) (by omega)
    rw [Tw.pml_low, ← ht.1] at this
    exact this
  have hl : tmul k b < 256 := by rw [ht.1]; exact ht.2
  clear ht
  generalize tmul k b = q at *
  generalize Tw.pmh 0 k 0 b = v at *
  have h1 : IntKind.u64.wrap (k : Int) = (k : Int) := by rw [IntKind.wrap_u64]; omega
  have h2 : IntKind.u64.wrap (b : Int) = (b : Int) := by rw [IntKind.wrap_u64]; omega
  have h3 : IntKind.i64.wrap (q : Int) = (q : Int) := by rw [IntKind.wrap_i64]; omega
  have hfl := field_lo (v : Int) (q : Int)
  go_enter Tryz.func29, Tryz.ntmps29
  go_wp2_with (go_at_call 57; refine (HP.out.go _).mono ?_; rintro e w1 ⟨rfl, hb1⟩)
  go_ret
  exact ⟨rfl, by first | exact hb1 | (go_grown)⟩
/-- A byte turned left n times. -/
def lft (x : Nat) : Nat → Nat
  | 0 => x
  | n + 1 => 2 * lft x n % 256 + lft x n / 128
theorem lft_lt (x : Nat) (hx : x < 256) : ∀ n, lft x n < 256
  | 0 => hx
  | n + 1 => by
    have := lft_lt x hx n
    unfold lft
    omega
theorem left_any (x n : Nat) (hx : x < 256) (hn : n ≤ 4) : Same 56 #[.int .i64 (x : Int), .int .i64 (n : Int)] (.int .i64 ((lft x n : Nat) : Int)) := by
  intro W
  go_enter Tryz.func56, Tryz.ntmps56
  go_wp2
  go_loopw [5, 6] (fun v u wr => ∃ j : Nat, j ≤ n ∧ v = .int .i64 ((lft x j : Nat) : Int) ∧ u = .int .i64 j ∧ W = wr) (fun _ u _ => n - (intOf u).toNat)
  case atStart => exact ⟨0, by omega, rfl, rfl, rfl⟩
  case round =>
    obtain ⟨j, hj, rfl, rfl, rfl⟩ := hrel
    by_cases hlt : j < n
    · have hy := lft_lt x hx j
      generalize hz : lft x (j + 1) = z at *
      have hz2 : 2 * lft x j % 256 + lft x j / 128 = z := hz
      have HZ : Hid (lft x (j + 1) = z) := hz
      clear hz
      generalize lft x j = y at *
      have f1 : (2 * (y : Int)).tmod 256 + (y : Int).tdiv 128 = (z : Int) := by
        rw [Int.tmod_eq_emod_of_nonneg (by omega), Int.tdiv_eq_ediv_of_nonneg (by omega)]
        omega
      have f2 : 2 * (y : Int) % 256 + (y : Int) / 128 = (z : Int) := by omega
      clear hz2
      go_wp2
      exact ⟨⟨j + 1, hlt, by rw [HZ.out], by simp, trivial⟩, by simp [intOf]; omega⟩
    · have HJ : Hid (lft x n = lft x j) := by rw [show n = j by omega]; exact (rfl : lft x j = lft x j)
      have hnl : ¬ ((j : Int) < (n : Int)) := by omega
      go_wp2
      go_ret
      exact ⟨by rw [HJ.out]; rfl, rfl⟩
theorem box_lft {x : Nat} (hx : x < 256) : x ^^^ lft x 1 ^^^ lft x 2 ^^^ lft x 3 ^^^ lft x 4 ^^^ 99 = boxp x 4 := by
  have all : ∀ j : Fin 256, j.val ^^^ lft j.val 1 ^^^ lft j.val 2 ^^^ lft j.val 3 ^^^ lft j.val 4 ^^^ 99 = boxp j.val 4 := by decide +kernel
  exact all ⟨x, hx⟩
theorem i64_xor8 (a b : Nat) (ha : a < 256) (hb : b < 256) : bits .xor .i64 (a : Int) (b : Int) = ((a ^^^ b : Nat) : Int) := by
  have hx : a ^^^ b < 2 ^ 8 := Nat.xor_lt_two_pow (by omega) (by omega)
  show IntKind.i64.wrap ((BitVec.ofInt 64 (a : Int) ^^^ BitVec.ofInt 64 (b : Int)).toNat : Int) = _
  rw [BitVec.toNat_xor, ofInt_u64 a (by omega), ofInt_u64 b (by omega), IntKind.wrap_i64]
  omega
set_option maxRecDepth 100000 in
theorem rbox_any (b : Nat) (hb : b < 256) : Ret 28 #[.int .i64 (b : Int)] (.int .i64 ((bx b : Nat) : Int)) := by
  intro W
  have he := binv_eq hb
  have HI : Hid (Ret 55 #[.int .i64 3, .agg #[.int .u64 0, .int .u64 (b : Int)]] (.agg #[.int .u64 0, .int .u64 ((binv b : Nat) : Int)])) := by
    have := rinv_any 3 (0, b) (Nat.two_pow_pos 64) (by show b < 2 ^ 64; omega)
    rw [he.2.1, he.2.2, ← he.1] at this
    exact this
  have hx := binv_lt b
  have hv : bx b = boxp (binv b) 4 := rfl
  rw [hv, ← box_lft hx]
  clear hv he
  generalize binv b = x at *
  have H1 : Hid (Same 56 #[.int .i64 (x : Int), .int .i64 1] (.int .i64 ((lft x 1 : Nat) : Int))) := left_any x 1 hx (by decide)
  have H2 : Hid (Same 56 #[.int .i64 (x : Int), .int .i64 2] (.int .i64 ((lft x 2 : Nat) : Int))) := left_any x 2 hx (by decide)
  have H3 : Hid (Same 56 #[.int .i64 (x : Int), .int .i64 3] (.int .i64 ((lft x 3 : Nat) : Int))) := left_any x 3 hx (by decide)
  have H4 : Hid (Same 56 #[.int .i64 (x : Int), .int .i64 4] (.int .i64 ((lft x 4 : Nat) : Int))) := left_any x 4 hx (by decide)
  have l1 := lft_lt x hx 1
  have l2 := lft_lt x hx 2
  have l3 := lft_lt x hx 3
  have l4 := lft_lt x hx 4
  generalize lft x 1 = a1 at *
  generalize lft x 2 = a2 at *
  generalize lft x 3 = a3 at *
  generalize lft x 4 = a4 at *
  have m1 : x ^^^ a1 < 256 := Nat.xor_lt_two_pow (n := 8) hx l1
  have m2 : x ^^^ a1 ^^^ a2 < 256 := Nat.xor_lt_two_pow (n := 8) m1 l2
  have m3 : x ^^^ a1 ^^^ a2 ^^^ a3 < 256 := Nat.xor_lt_two_pow (n := 8) m2 l3
  have m4 : x ^^^ a1 ^^^ a2 ^^^ a3 ^^^ a4 < 256 := Nat.xor_lt_two_pow (n := 8) m3 l4
  have xr1 := i64_xor8 _ _ hx l1
  have xr2 := i64_xor8 _ _ m1 l2
  have xr3 := i64_xor8 _ _ m2 l3
  have xr4 := i64_xor8 _ _ m3 l4
  have xr5 : bits .xor .i64 ((x ^^^ a1 ^^^ a2 ^^^ a3 ^^^ a4 : Nat) : Int) 99 = ((x ^^^ a1 ^^^ a2 ^^^ a3 ^^^ a4 ^^^ 99 : Nat) : Int) := i64_xor8 _ 99 m4 (by decide)
  clear m1 m2 m3 m4 l1 l2 l3 l4
  generalize x ^^^ a1 ^^^ a2 ^^^ a3 ^^^ a4 ^^^ 99 = y5 at *
  generalize x ^^^ a1 ^^^ a2 ^^^ a3 ^^^ a4 = y4 at *
  generalize x ^^^ a1 ^^^ a2 ^^^ a3 = y3 at *
  generalize x ^^^ a1 ^^^ a2 = y2 at *
  generalize x ^^^ a1 = y1 at *
  have h2 : IntKind.u64.wrap (b : Int) = (b : Int) := by rw [IntKind.wrap_u64]; omega
  have h3 : IntKind.i64.wrap (x : Int) = (x : Int) := by rw [IntKind.wrap_i64]; omega
  have hfl := field_lo 0 (x : Int)
  go_enter Tryz.func28, Tryz.ntmps28
  go_wp2_with (first | (go_at_call 55; refine (HI.out.go _).mono ?_; rintro e w1 ⟨rfl, hb1⟩) | (go_at_call_of 56 (#[.int .i64 (x : Int), .int .i64 1] : Array Value); refine (H1.out.go _).mono ?_; rintro e w2 ⟨rfl, rfl⟩) | (go_at_call_of 56 (#[.int .i64 (x : Int), .int .i64 2] : Array Value); refine (H2.out.go _).mono ?_; rintro e w2 ⟨rfl, rfl⟩) | (go_at_call_of 56 (#[.int .i64 (x : Int), .int .i64 3] : Array Value); refine (H3.out.go _).mono ?_; rintro e w2 ⟨rfl, rfl⟩) | (go_at_call_of 56 (#[.int .i64 (x : Int), .int .i64 4] : Array Value); refine (H4.out.go _).mono ?_; rintro e w2 ⟨rfl, rfl⟩))
  go_ret
  exact ⟨rfl, hb1⟩
end Go.Proofs.YtopmkooegpaeaaaGreat
