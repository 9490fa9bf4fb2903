/- Contracts of tower.inverse, Inv and Div over the seat's translation: the inverse of the field. -/
import Derived.Test.YtnecjkdlmecgdaaTwM
import Derived.Test.YtnecjkdlmecgdaaPTwT
import Derived.Test.YtnecjkdlmecgdaaPTwV
namespace Go.Proofs.Ytnecjkdlmecgdaa
open Go.RowKit
open Tw (px ik gn)

theorem level_ret (hi lo : Nat) (hl : lo < 2 ^ 64) : Ret 82 #[.agg #[.int .u64 (hi : Int), .int .u64 (lo : Int)]] (.int .i64 (lvl hi lo)) := fun W => (level_any hi lo hl W).mono fun _ _ ⟨h1, h2⟩ => ⟨h1, by rw [h2]; exact (Below.refl _ _).alloc (Nat.le_refl _) _⟩

theorem inv_base (ah al : Nat) (HL : Ret 82 #[.agg #[.int .u64 (ah : Int), .int .u64 (al : Int)]] (.int .i64 0)) : Ret 79 #[.agg #[.int .u64 (ah : Int), .int .u64 (al : Int)]] (.agg #[.int .u64 (ah : Int), .int .u64 (al : Int)]) := by
  intro W
  go_enter Try.func79, Try.ntmps79
  go_wp2_with fail
  refine (HL.go _).mono ?_
  rintro e w1 ⟨rfl, hb1⟩
  have A : El w1 W.heap.size ah al := El.below ⟨by simp [go_sem], by simp [go_sem]⟩ hb1
  have R : Ew w1 (W.heap.size + 1) 0 0 := Ew.below ⟨⟨by simp [go_sem], by simp [go_sem]⟩, by simp [go_sem], by simp [go_sem]⟩ hb1
  have D : Below W.heap.size W w1 := (((Below.refl _ _).alloc (Nat.le_refl _) _).alloc (by simp) _).trans (hb1.mono (by simp <;> omega))
  obtain ⟨a1, a0⟩ := A
  obtain ⟨⟨r1, r0⟩, f1, f0⟩ := R
  clear hb1
  go_wp2
  refine bodyPost_ret (v := .agg #[.int .u64 (ah : Int), .int .u64 (al : Int)]) (by simp [results, Try.results79, go_sem, *]) rfl ⟨rfl, ?_⟩
  exact (D.setCell (by simp) _).setCell (by simp) _

theorem add_ret (ah al bh bl : Nat) (h1 : ah < 2 ^ 64) (h2 : al < 2 ^ 64) (h3 : bh < 2 ^ 64) (h4 : bl < 2 ^ 64) : Ret 20 #[.agg #[.int .u64 (ah : Int), .int .u64 (al : Int)], .agg #[.int .u64 (bh : Int), .int .u64 (bl : Int)]] (.agg #[.int .u64 (ah ^^^ bh : Nat), .int .u64 (al ^^^ bl : Nat)]) := fun W => add_any ah al bh bl h1 h2 h3 h4 W
theorem add_low (a b : Nat) (h2 : a < 2 ^ 64) (h4 : b < 2 ^ 64) : Ret 20 #[.agg #[.int .u64 ((0 : Nat) : Int), .int .u64 (a : Int)], .agg #[.int .u64 ((0 : Nat) : Int), .int .u64 (b : Int)]] (.agg #[.int .u64 ((0 : Nat) : Int), .int .u64 (a ^^^ b : Nat)]) := add_ret 0 a 0 b (by decide) h2 (by decide) h4
theorem product_low (a b : Nat) (h2 : a < 2 ^ 64) (h4 : b < 2 ^ 64) : Ret 67 #[.agg #[.int .u64 ((0 : Nat) : Int), .int .u64 (a : Int)], .agg #[.int .u64 ((0 : Nat) : Int), .int .u64 (b : Int)]] (.agg #[.int .u64 ((0 : Nat) : Int), .int .u64 (px a b : Nat)]) := fun W => by
  have := product_any 0 a 0 b (by decide) h2 (by decide) h4 W
  rwa [Tw.pmh_low, Tw.pml_low] at this
theorem square_low (a : Nat) (h2 : a < 2 ^ 64) : Ret 71 #[.agg #[.int .u64 ((0 : Nat) : Int), .int .u64 (a : Int)]] (.agg #[.int .u64 ((0 : Nat) : Int), .int .u64 (px a a : Nat)]) := fun W => by
  have := square_any 0 a (by decide) h2 W
  rwa [Tw.pmh_low, Tw.pml_low] at this
theorem of_low_ret (l : Nat) (hl : l < 8) (a : Nat) (h : a < 2 ^ 2 ^ l) (h2 : a < 2 ^ 64) : Ret 54 #[.int .i64 (l : Int), .agg #[.int .u64 ((0 : Nat) : Int), .int .u64 (a : Int)]] (.bool true) := by
  have := of_ret l 0 a h2
  rwa [(ofB_iff l 0 a hl).2 (.inr ⟨rfl, h⟩)] at this
theorem div_int (a D : Nat) : (a : Int) / (D : Int) = ((a / D : Nat) : Int) := by simp
theorem or_join (u v m : Nat) (hu : u * 2 ^ m < 2 ^ 64) (hv : v < 2 ^ m) (hv2 : v < 2 ^ 64) : bits .or .u64 ((u * 2 ^ m : Nat) : Int) (v : Int) = ((2 ^ m * u + v : Nat) : Int) := by
  rw [u64_or_nat _ _ hu hv2, Nat.mul_comm u, Nat.two_pow_add_eq_or_of_lt hv]

/-- The inverses of numbers of a level. -/
def InvOk (k : Nat) : Prop := ∀ a : Nat, a < 2 ^ 2 ^ k → Ret 79 #[.agg #[.int .u64 ((0 : Nat) : Int), .int .u64 (a : Int)]] (.agg #[.int .u64 ((0 : Nat) : Int), .int .u64 (ik k a : Nat)])
theorem ik0 (a : Nat) (h : a < 2) : ik 0 a = a := by
  have h2 : a = 0 ∨ a = 1 := by omega
  rcases h2 with rfl | rfl <;> decide
theorem invOk0 : InvOk 0 := by
  intro a ha
  have ha2 : a < 2 := ha
  rw [ik0 a ha2]
  have := level_ret 0 a (by omega)
  rw [show lvl 0 a = 0 by unfold lvl; simp [ha2]] at this
  exact inv_base 0 a this
theorem invOk1 (h : InvOk 0) : InvOk 1 := by
  intro a ha
  have ha2 : a < 4 := ha
  by_cases hs : a < 2
  · have := h a hs
    rwa [← Tw.ik_succ 0 a hs] at this
  · have h64 : a < 2 ^ 64 := by omega
    have hhi : a / 2 < 2 := by omega
    have hlo : a % 2 < 2 := by omega
    generalize hi_ : a / 2 = hi at *
    generalize lo_ : a % 2 = lo at *
    have hae : a = 2 ^ 2 ^ 0 * hi + lo := by
      have := Nat.div_add_mod a 2
      rw [hi_, lo_] at this
      exact this.symm
    have hg : px (gn 0) hi < 2 := Tw.px_closed 0 _ _ (by decide) (Tw.gn_lt 0) hhi
    have ho : lo ^^^ px (gn 0) hi < 2 := Nat.xor_lt_two_pow (n := 1) hlo hg
    have hp : px lo (lo ^^^ px (gn 0) hi) < 2 := Tw.px_closed 0 _ _ (by decide) hlo ho
    have hq : px hi hi < 2 := Tw.px_closed 0 _ _ (by decide) hhi hhi
    have hn : px hi hi ^^^ px lo (lo ^^^ px (gn 0) hi) < 2 := Nat.xor_lt_two_pow (n := 1) hq hp
    have hst := Tw.ik_step 0 hi lo (by decide) hhi hlo
    rw [← hae] at hst
    have HL := level_ret 0 a h64
    rw [show lvl 0 a = 1 by unfold lvl; simp; omega] at HL
    have hb := Tw.ik_lt 0 (px hi hi ^^^ px lo (lo ^^^ px (gn 0) hi))
    have IV := h _ hn
    generalize ik 0 (px hi hi ^^^ px lo (lo ^^^ px (gn 0) hi)) = b at *
    have hb2 : b < 2 := hb
    have hu : px hi b < 2 := Tw.px_closed 0 _ _ (by decide) hhi hb
    have hv : px (lo ^^^ px (gn 0) hi) b < 2 := Tw.px_closed 0 _ _ (by decide) ho hb
    have MX := mulx_low 0 0 hi _ (by decide) (of_low_ret 0 (by decide) hi hhi (by omega)) (fun W => tx_any 0 hi (by omega) W)
    rw [show gbit 0 = gn 0 by decide] at MX
    rw [hst]
    refine inv_core 1 (by decide) (by decide) (by decide) 0 a 0 hi 0 lo 0 (px (gn 0) hi) 0 (lo ^^^ px (gn 0) hi) 0 (px hi hi) 0 (px lo (lo ^^^ px (gn 0) hi)) 0 (px hi hi ^^^ px lo (lo ^^^ px (gn 0) hi)) 0 b 0 (px hi b) 0 (px (lo ^^^ px (gn 0) hi) b) 0 (2 ^ 2 ^ 0 * px hi b + px (lo ^^^ px (gn 0) hi) b) HL ?_ ?_ (add_low _ _ (by omega) (by omega)) (square_low _ (by omega)) (product_low _ _ (by omega) (by omega)) (add_low _ _ (by omega) (by omega)) IV (product_low _ _ (by omega) (by omega)) (product_low _ _ (by omega) (by omega)) ?_
    · refine split1 0 a hi lo (of_low_ret 1 (by decide) a ha h64) ?_ ?_
      · show (a : Int) / ((2 : Nat) : Int) = _
        rw [div_int, hi_]
      · have := mask_nat 0 a 1 rfl (by decide) h64
        rw [show a % 2 ^ 2 ^ 0 = lo from lo_] at this
        exact this
    · rw [show IntKind.i64.wrap ((1 : Int) - 1) = 0 by decide]
      exact MX
    · refine join1 0 (px hi b) 0 (px (lo ^^^ px (gn 0) hi) b) _ (of_low_ret 0 (by decide) _ hu (by omega)) (of_low_ret 0 (by decide) _ hv (by omega)) hu ?_
      have := or_join (px hi b) (px (lo ^^^ px (gn 0) hi) b) 1 (by omega) hv (by omega)
      rw [Int.natCast_mul] at this
      exact this
theorem invOk2 (h : InvOk 1) : InvOk 2 := by
  intro a ha
  have ha2 : a < 16 := ha
  by_cases hs : a < 4
  · have := h a hs
    rwa [← Tw.ik_succ 1 a hs] at this
  · have h64 : a < 2 ^ 64 := by omega
    have hhi : a / 4 < 4 := by omega
    have hlo : a % 4 < 4 := by omega
    generalize hi_ : a / 4 = hi at *
    generalize lo_ : a % 4 = lo at *
    have hae : a = 2 ^ 2 ^ 1 * hi + lo := by
      have := Nat.div_add_mod a 4
      rw [hi_, lo_] at this
      exact this.symm
    have hg : px (gn 1) hi < 4 := Tw.px_closed 1 _ _ (by decide) (Tw.gn_lt 1) hhi
    have ho : lo ^^^ px (gn 1) hi < 4 := Nat.xor_lt_two_pow (n := 2) hlo hg
    have hp : px lo (lo ^^^ px (gn 1) hi) < 4 := Tw.px_closed 1 _ _ (by decide) hlo ho
    have hq : px hi hi < 4 := Tw.px_closed 1 _ _ (by decide) hhi hhi
    have hn : px hi hi ^^^ px lo (lo ^^^ px (gn 1) hi) < 4 := Nat.xor_lt_two_pow (n := 2) hq hp
    have hst := Tw.ik_step 1 hi lo (by decide) hhi hlo
    rw [← hae] at hst
    have HL := level_ret 0 a h64
    rw [show lvl 0 a = 2 by unfold lvl; simp; omega] at HL
    have hb := Tw.ik_lt 1 (px hi hi ^^^ px lo (lo ^^^ px (gn 1) hi))
    have IV := h _ hn
    generalize ik 1 (px hi hi ^^^ px lo (lo ^^^ px (gn 1) hi)) = b at *
    have hb2 : b < 4 := hb
    have hu : px hi b < 4 := Tw.px_closed 1 _ _ (by decide) hhi hb
    have hv : px (lo ^^^ px (gn 1) hi) b < 4 := Tw.px_closed 1 _ _ (by decide) ho hb
    have MX := mulx_low 1 0 hi _ (by decide) (of_low_ret 1 (by decide) hi hhi (by omega)) (fun W => tx_any 1 hi (by omega) W)
    rw [show gbit 1 = gn 1 by decide] at MX
    rw [hst]
    refine inv_core 2 (by decide) (by decide) (by decide) 0 a 0 hi 0 lo 0 (px (gn 1) hi) 0 (lo ^^^ px (gn 1) hi) 0 (px hi hi) 0 (px lo (lo ^^^ px (gn 1) hi)) 0 (px hi hi ^^^ px lo (lo ^^^ px (gn 1) hi)) 0 b 0 (px hi b) 0 (px (lo ^^^ px (gn 1) hi) b) 0 (2 ^ 2 ^ 1 * px hi b + px (lo ^^^ px (gn 1) hi) b) HL ?_ ?_ (add_low _ _ (by omega) (by omega)) (square_low _ (by omega)) (product_low _ _ (by omega) (by omega)) (add_low _ _ (by omega) (by omega)) IV (product_low _ _ (by omega) (by omega)) (product_low _ _ (by omega) (by omega)) ?_
    · refine split2 0 a hi lo (of_low_ret 2 (by decide) a ha h64) ?_ ?_
      · show (a : Int) / ((4 : Nat) : Int) = _
        rw [div_int, hi_]
      · have := mask_nat 1 a 3 rfl (by decide) h64
        rw [show a % 2 ^ 2 ^ 1 = lo from lo_] at this
        exact this
    · rw [show IntKind.i64.wrap ((2 : Int) - 1) = 1 by decide]
      exact MX
    · refine join2 0 (px hi b) 0 (px (lo ^^^ px (gn 1) hi) b) _ (of_low_ret 1 (by decide) _ hu (by omega)) (of_low_ret 1 (by decide) _ hv (by omega)) hu ?_
      have := or_join (px hi b) (px (lo ^^^ px (gn 1) hi) b) 2 (by omega) hv (by omega)
      rw [Int.natCast_mul] at this
      exact this
theorem invOk3 (h : InvOk 2) : InvOk 3 := by
  intro a ha
  have ha2 : a < 256 := ha
  by_cases hs : a < 16
  · have := h a hs
    rwa [← Tw.ik_succ 2 a hs] at this
  · have h64 : a < 2 ^ 64 := by omega
    have hhi : a / 16 < 16 := by omega
    have hlo : a % 16 < 16 := by omega
    generalize hi_ : a / 16 = hi at *
    generalize lo_ : a % 16 = lo at *
    have hae : a = 2 ^ 2 ^ 2 * hi + lo := by
      have := Nat.div_add_mod a 16
      rw [hi_, lo_] at this
      exact this.symm
    have hg : px (gn 2) hi < 16 := Tw.px_closed 2 _ _ (by decide) (Tw.gn_lt 2) hhi
    have ho : lo ^^^ px (gn 2) hi < 16 := Nat.xor_lt_two_pow (n := 4) hlo hg
    have hp : px lo (lo ^^^ px (gn 2) hi) < 16 := Tw.px_closed 2 _ _ (by decide) hlo ho
    have hq : px hi hi < 16 := Tw.px_closed 2 _ _ (by decide) hhi hhi
    have hn : px hi hi ^^^ px lo (lo ^^^ px (gn 2) hi) < 16 := Nat.xor_lt_two_pow (n := 4) hq hp
    have hst := Tw.ik_step 2 hi lo (by decide) hhi hlo
    rw [← hae] at hst
    have HL := level_ret 0 a h64
    rw [show lvl 0 a = 3 by unfold lvl; simp; omega] at HL
    have hb := Tw.ik_lt 2 (px hi hi ^^^ px lo (lo ^^^ px (gn 2) hi))
    have IV := h _ hn
    generalize ik 2 (px hi hi ^^^ px lo (lo ^^^ px (gn 2) hi)) = b at *
    have hb2 : b < 16 := hb
    have hu : px hi b < 16 := Tw.px_closed 2 _ _ (by decide) hhi hb
    have hv : px (lo ^^^ px (gn 2) hi) b < 16 := Tw.px_closed 2 _ _ (by decide) ho hb
    have MX := mulx_low 2 0 hi _ (by decide) (of_low_ret 2 (by decide) hi hhi (by omega)) (fun W => tx_any 2 hi (by omega) W)
    rw [show gbit 2 = gn 2 by decide] at MX
    rw [hst]
    refine inv_core 3 (by decide) (by decide) (by decide) 0 a 0 hi 0 lo 0 (px (gn 2) hi) 0 (lo ^^^ px (gn 2) hi) 0 (px hi hi) 0 (px lo (lo ^^^ px (gn 2) hi)) 0 (px hi hi ^^^ px lo (lo ^^^ px (gn 2) hi)) 0 b 0 (px hi b) 0 (px (lo ^^^ px (gn 2) hi) b) 0 (2 ^ 2 ^ 2 * px hi b + px (lo ^^^ px (gn 2) hi) b) HL ?_ ?_ (add_low _ _ (by omega) (by omega)) (square_low _ (by omega)) (product_low _ _ (by omega) (by omega)) (add_low _ _ (by omega) (by omega)) IV (product_low _ _ (by omega) (by omega)) (product_low _ _ (by omega) (by omega)) ?_
    · refine split3 0 a hi lo (of_low_ret 3 (by decide) a ha h64) ?_ ?_
      · show (a : Int) / ((16 : Nat) : Int) = _
        rw [div_int, hi_]
      · have := mask_nat 2 a 15 rfl (by decide) h64
        rw [show a % 2 ^ 2 ^ 2 = lo from lo_] at this
        exact this
    · rw [show IntKind.i64.wrap ((3 : Int) - 1) = 2 by decide]
      exact MX
    · refine join3 0 (px hi b) 0 (px (lo ^^^ px (gn 2) hi) b) _ (of_low_ret 2 (by decide) _ hu (by omega)) (of_low_ret 2 (by decide) _ hv (by omega)) hu ?_
      have := or_join (px hi b) (px (lo ^^^ px (gn 2) hi) b) 4 (by omega) hv (by omega)
      rw [Int.natCast_mul] at this
      exact this
theorem invOk4 (h : InvOk 3) : InvOk 4 := by
  intro a ha
  have ha2 : a < 65536 := ha
  by_cases hs : a < 256
  · have := h a hs
    rwa [← Tw.ik_succ 3 a hs] at this
  · have h64 : a < 2 ^ 64 := by omega
    have hhi : a / 256 < 256 := by omega
    have hlo : a % 256 < 256 := by omega
    generalize hi_ : a / 256 = hi at *
    generalize lo_ : a % 256 = lo at *
    have hae : a = 2 ^ 2 ^ 3 * hi + lo := by
      have := Nat.div_add_mod a 256
      rw [hi_, lo_] at this
      exact this.symm
    have hg : px (gn 3) hi < 256 := Tw.px_closed 3 _ _ (by decide) (Tw.gn_lt 3) hhi
    have ho : lo ^^^ px (gn 3) hi < 256 := Nat.xor_lt_two_pow (n := 8) hlo hg
    have hp : px lo (lo ^^^ px (gn 3) hi) < 256 := Tw.px_closed 3 _ _ (by decide) hlo ho
    have hq : px hi hi < 256 := Tw.px_closed 3 _ _ (by decide) hhi hhi
    have hn : px hi hi ^^^ px lo (lo ^^^ px (gn 3) hi) < 256 := Nat.xor_lt_two_pow (n := 8) hq hp
    have hst := Tw.ik_step 3 hi lo (by decide) hhi hlo
    rw [← hae] at hst
    have HL := level_ret 0 a h64
    rw [show lvl 0 a = 4 by unfold lvl; simp; omega] at HL
    have hb := Tw.ik_lt 3 (px hi hi ^^^ px lo (lo ^^^ px (gn 3) hi))
    have IV := h _ hn
    generalize ik 3 (px hi hi ^^^ px lo (lo ^^^ px (gn 3) hi)) = b at *
    have hb2 : b < 256 := hb
    have hu : px hi b < 256 := Tw.px_closed 3 _ _ (by decide) hhi hb
    have hv : px (lo ^^^ px (gn 3) hi) b < 256 := Tw.px_closed 3 _ _ (by decide) ho hb
    have MX := mulx_low 3 0 hi _ (by decide) (of_low_ret 3 (by decide) hi hhi (by omega)) (fun W => tx_any 3 hi (by omega) W)
    rw [show gbit 3 = gn 3 by decide] at MX
    rw [hst]
    refine inv_core 4 (by decide) (by decide) (by decide) 0 a 0 hi 0 lo 0 (px (gn 3) hi) 0 (lo ^^^ px (gn 3) hi) 0 (px hi hi) 0 (px lo (lo ^^^ px (gn 3) hi)) 0 (px hi hi ^^^ px lo (lo ^^^ px (gn 3) hi)) 0 b 0 (px hi b) 0 (px (lo ^^^ px (gn 3) hi) b) 0 (2 ^ 2 ^ 3 * px hi b + px (lo ^^^ px (gn 3) hi) b) HL ?_ ?_ (add_low _ _ (by omega) (by omega)) (square_low _ (by omega)) (product_low _ _ (by omega) (by omega)) (add_low _ _ (by omega) (by omega)) IV (product_low _ _ (by omega) (by omega)) (product_low _ _ (by omega) (by omega)) ?_
    · refine split4 0 a hi lo (of_low_ret 4 (by decide) a ha h64) ?_ ?_
      · show (a : Int) / ((256 : Nat) : Int) = _
        rw [div_int, hi_]
      · have := mask_nat 3 a 255 rfl (by decide) h64
        rw [show a % 2 ^ 2 ^ 3 = lo from lo_] at this
        exact this
    · rw [show IntKind.i64.wrap ((4 : Int) - 1) = 3 by decide]
      exact MX
    · refine join4 0 (px hi b) 0 (px (lo ^^^ px (gn 3) hi) b) _ (of_low_ret 3 (by decide) _ hu (by omega)) (of_low_ret 3 (by decide) _ hv (by omega)) hu ?_
      have := or_join (px hi b) (px (lo ^^^ px (gn 3) hi) b) 8 (by omega) hv (by omega)
      rw [Int.natCast_mul] at this
      exact this
theorem invOk5 (h : InvOk 4) : InvOk 5 := by
  intro a ha
  have ha2 : a < 4294967296 := ha
  by_cases hs : a < 65536
  · have := h a hs
    rwa [← Tw.ik_succ 4 a hs] at this
  · have h64 : a < 2 ^ 64 := by omega
    have hhi : a / 65536 < 65536 := by omega
    have hlo : a % 65536 < 65536 := by omega
    generalize hi_ : a / 65536 = hi at *
    generalize lo_ : a % 65536 = lo at *
    have hae : a = 2 ^ 2 ^ 4 * hi + lo := by
      have := Nat.div_add_mod a 65536
      rw [hi_, lo_] at this
      exact this.symm
    have hg : px (gn 4) hi < 65536 := Tw.px_closed 4 _ _ (by decide) (Tw.gn_lt 4) hhi
    have ho : lo ^^^ px (gn 4) hi < 65536 := Nat.xor_lt_two_pow (n := 16) hlo hg
    have hp : px lo (lo ^^^ px (gn 4) hi) < 65536 := Tw.px_closed 4 _ _ (by decide) hlo ho
    have hq : px hi hi < 65536 := Tw.px_closed 4 _ _ (by decide) hhi hhi
    have hn : px hi hi ^^^ px lo (lo ^^^ px (gn 4) hi) < 65536 := Nat.xor_lt_two_pow (n := 16) hq hp
    have hst := Tw.ik_step 4 hi lo (by decide) hhi hlo
    rw [← hae] at hst
    have HL := level_ret 0 a h64
    rw [show lvl 0 a = 5 by unfold lvl; simp; omega] at HL
    have hb := Tw.ik_lt 4 (px hi hi ^^^ px lo (lo ^^^ px (gn 4) hi))
    have IV := h _ hn
    generalize ik 4 (px hi hi ^^^ px lo (lo ^^^ px (gn 4) hi)) = b at *
    have hb2 : b < 65536 := hb
    have hu : px hi b < 65536 := Tw.px_closed 4 _ _ (by decide) hhi hb
    have hv : px (lo ^^^ px (gn 4) hi) b < 65536 := Tw.px_closed 4 _ _ (by decide) ho hb
    have MX := mulx_low 4 0 hi _ (by decide) (of_low_ret 4 (by decide) hi hhi (by omega)) (fun W => tx_any 4 hi (by omega) W)
    rw [show gbit 4 = gn 4 by decide] at MX
    rw [hst]
    refine inv_core 5 (by decide) (by decide) (by decide) 0 a 0 hi 0 lo 0 (px (gn 4) hi) 0 (lo ^^^ px (gn 4) hi) 0 (px hi hi) 0 (px lo (lo ^^^ px (gn 4) hi)) 0 (px hi hi ^^^ px lo (lo ^^^ px (gn 4) hi)) 0 b 0 (px hi b) 0 (px (lo ^^^ px (gn 4) hi) b) 0 (2 ^ 2 ^ 4 * px hi b + px (lo ^^^ px (gn 4) hi) b) HL ?_ ?_ (add_low _ _ (by omega) (by omega)) (square_low _ (by omega)) (product_low _ _ (by omega) (by omega)) (add_low _ _ (by omega) (by omega)) IV (product_low _ _ (by omega) (by omega)) (product_low _ _ (by omega) (by omega)) ?_
    · refine split5 0 a hi lo (of_low_ret 5 (by decide) a ha h64) ?_ ?_
      · show (a : Int) / ((65536 : Nat) : Int) = _
        rw [div_int, hi_]
      · have := mask_nat 4 a 65535 rfl (by decide) h64
        rw [show a % 2 ^ 2 ^ 4 = lo from lo_] at this
        exact this
    · rw [show IntKind.i64.wrap ((5 : Int) - 1) = 4 by decide]
      exact MX
    · refine join5 0 (px hi b) 0 (px (lo ^^^ px (gn 4) hi) b) _ (of_low_ret 4 (by decide) _ hu (by omega)) (of_low_ret 4 (by decide) _ hv (by omega)) hu ?_
      have := or_join (px hi b) (px (lo ^^^ px (gn 4) hi) b) 16 (by omega) hv (by omega)
      rw [Int.natCast_mul] at this
      exact this
theorem invOk6 (h : InvOk 5) : InvOk 6 := by
  intro a ha
  have ha2 : a < 18446744073709551616 := ha
  by_cases hs : a < 4294967296
  · have := h a hs
    rwa [← Tw.ik_succ 5 a hs] at this
  · have h64 : a < 2 ^ 64 := by omega
    have hhi : a / 4294967296 < 4294967296 := by omega
    have hlo : a % 4294967296 < 4294967296 := by omega
    generalize hi_ : a / 4294967296 = hi at *
    generalize lo_ : a % 4294967296 = lo at *
    have hae : a = 2 ^ 2 ^ 5 * hi + lo := by
      have := Nat.div_add_mod a 4294967296
      rw [hi_, lo_] at this
      exact this.symm
    have hg : px (gn 5) hi < 4294967296 := Tw.px_closed 5 _ _ (by decide) (Tw.gn_lt 5) hhi
    have ho : lo ^^^ px (gn 5) hi < 4294967296 := Nat.xor_lt_two_pow (n := 32) hlo hg
    have hp : px lo (lo ^^^ px (gn 5) hi) < 4294967296 := Tw.px_closed 5 _ _ (by decide) hlo ho
    have hq : px hi hi < 4294967296 := Tw.px_closed 5 _ _ (by decide) hhi hhi
    have hn : px hi hi ^^^ px lo (lo ^^^ px (gn 5) hi) < 4294967296 := Nat.xor_lt_two_pow (n := 32) hq hp
    have hst := Tw.ik_step 5 hi lo (by decide) hhi hlo
    rw [← hae] at hst
    have HL := level_ret 0 a h64
    rw [show lvl 0 a = 6 by unfold lvl; simp; omega] at HL
    have hb := Tw.ik_lt 5 (px hi hi ^^^ px lo (lo ^^^ px (gn 5) hi))
    have IV := h _ hn
    generalize ik 5 (px hi hi ^^^ px lo (lo ^^^ px (gn 5) hi)) = b at *
    have hb2 : b < 4294967296 := hb
    have hu : px hi b < 4294967296 := Tw.px_closed 5 _ _ (by decide) hhi hb
    have hv : px (lo ^^^ px (gn 5) hi) b < 4294967296 := Tw.px_closed 5 _ _ (by decide) ho hb
    have MX := mulx_low 5 0 hi _ (by decide) (of_low_ret 5 (by decide) hi hhi (by omega)) (fun W => tx_any 5 hi (by omega) W)
    rw [show gbit 5 = gn 5 by decide] at MX
    rw [hst]
    refine inv_core 6 (by decide) (by decide) (by decide) 0 a 0 hi 0 lo 0 (px (gn 5) hi) 0 (lo ^^^ px (gn 5) hi) 0 (px hi hi) 0 (px lo (lo ^^^ px (gn 5) hi)) 0 (px hi hi ^^^ px lo (lo ^^^ px (gn 5) hi)) 0 b 0 (px hi b) 0 (px (lo ^^^ px (gn 5) hi) b) 0 (2 ^ 2 ^ 5 * px hi b + px (lo ^^^ px (gn 5) hi) b) HL ?_ ?_ (add_low _ _ (by omega) (by omega)) (square_low _ (by omega)) (product_low _ _ (by omega) (by omega)) (add_low _ _ (by omega) (by omega)) IV (product_low _ _ (by omega) (by omega)) (product_low _ _ (by omega) (by omega)) ?_
    · refine split6 0 a hi lo (of_low_ret 6 (by decide) a ha h64) ?_ ?_
      · show (a : Int) / ((4294967296 : Nat) : Int) = _
        rw [div_int, hi_]
      · have := mask_nat 5 a 4294967295 rfl (by decide) h64
        rw [show a % 2 ^ 2 ^ 5 = lo from lo_] at this
        exact this
    · rw [show IntKind.i64.wrap ((6 : Int) - 1) = 5 by decide]
      exact MX
    · refine join6 0 (px hi b) 0 (px (lo ^^^ px (gn 5) hi) b) _ (of_low_ret 5 (by decide) _ hu (by omega)) (of_low_ret 5 (by decide) _ hv (by omega)) hu ?_
      have := or_join (px hi b) (px (lo ^^^ px (gn 5) hi) b) 32 (by omega) hv (by omega)
      rw [Int.natCast_mul] at this
      exact this
theorem invOk_all : InvOk 6 := invOk6 (invOk5 (invOk4 (invOk3 (invOk2 (invOk1 invOk0)))))

theorem inverse_any (ah al : Nat) (h1 : ah < 2 ^ 64) (h2 : al < 2 ^ 64) : Ret 79 #[.agg #[.int .u64 (ah : Int), .int .u64 (al : Int)]] (.agg #[.int .u64 (Tw.ivh ah al : Nat), .int .u64 (Tw.ivl ah al : Nat)]) := by
  by_cases h0 : ah = 0
  · subst h0
    have := invOk_all al h2
    obtain ⟨e1, e0⟩ := Tw.iv_low 6 al (by decide) h2
    rw [e1, e0]
    exact this
  · have HL := level_ret ah al h2
    rw [show lvl ah al = 7 by unfold lvl; simp [h0]] at HL
    have hg : px (gn 6) ah < 2 ^ 64 := Tw.px_lt _ _
    have ho : al ^^^ px (gn 6) ah < 2 ^ 64 := Nat.xor_lt_two_pow h2 hg
    have hn : px ah ah ^^^ px al (al ^^^ px (gn 6) ah) < 2 ^ 64 := Nat.xor_lt_two_pow (Tw.px_lt _ _) (Tw.px_lt _ _)
    have hst := Tw.ik_step 6 ah al (by decide) h1 h2
    have e := Tw.iv_ik ah al h2
    rw [show (7 : Nat) = 6 + 1 from rfl, hst] at e
    have IV := invOk_all _ hn
    have hb : ik 6 (px ah ah ^^^ px al (al ^^^ px (gn 6) ah)) < 2 ^ 64 := Tw.ik_lt 6 _
    generalize ik 6 (px ah ah ^^^ px al (al ^^^ px (gn 6) ah)) = b at *
    have hu := Tw.px_lt ah b
    have hv := Tw.px_lt (al ^^^ px (gn 6) ah) b
    have f1 := Tw.ivh_lt ah al
    have f0 := Tw.ivl_lt ah al
    have e2 : Tw.ivh ah al = px ah b ∧ Tw.ivl ah al = px (al ^^^ px (gn 6) ah) b := by
      generalize Tw.ivh ah al = x at *
      generalize Tw.ivl ah al = y at *
      generalize px ah b = z at *
      generalize px (al ^^^ px (gn 6) ah) b = t at *
      rw [show (2 : Nat) ^ 2 ^ 6 = 18446744073709551616 from rfl] at e
      omega
    rw [e2.1, e2.2]
    have MX := mulx_low 6 0 ah _ (by decide) (of_low_ret 6 (by decide) ah h1 h1) (fun W => tx_any 6 ah h1 W)
    rw [show gbit 6 = gn 6 by decide] at MX
    have HO : Ret 54 #[.int .i64 7, .agg #[.int .u64 (ah : Int), .int .u64 (al : Int)]] (.bool true) := by
      have := of_ret 7 ah al h2
      rwa [show ofB 7 ah al = true from (ofB_iff 7 ah al (by decide)).2 (.inl rfl)] at this
    refine inv_core 7 (by decide) (by decide) (by decide) ah al 0 ah 0 al 0 (px (gn 6) ah) 0 (al ^^^ px (gn 6) ah) 0 (px ah ah) 0 (px al (al ^^^ px (gn 6) ah)) 0 (px ah ah ^^^ px al (al ^^^ px (gn 6) ah)) 0 b 0 (px ah b) 0 (px (al ^^^ px (gn 6) ah) b) (px ah b) (px (al ^^^ px (gn 6) ah) b) HL (split7 ah al HO) ?_ (add_low _ _ h2 hg) (square_low _ h1) (product_low _ _ h2 ho) (add_low _ _ (Tw.px_lt _ _) (Tw.px_lt _ _)) IV (product_low _ _ h1 hb) (product_low _ _ ho hb) ?_
    · rw [show IntKind.i64.wrap ((7 : Int) - 1) = 6 by decide]
      exact MX
    · exact join7 0 (px ah b) 0 (px (al ^^^ px (gn 6) ah) b) (of_low_ret 6 (by decide) _ hu hu) (of_low_ret 6 (by decide) _ hv hv)

set_option maxHeartbeats 400000 in
theorem inv_ok (l : Int) (ah al r1 r0 : Nat) (HO : Ret 54 #[.int .i64 l, .agg #[.int .u64 (ah : Int), .int .u64 (al : Int)]] (.bool true)) (HS : Ret 79 #[.agg #[.int .u64 (ah : Int), .int .u64 (al : Int)]] (.agg #[.int .u64 (r1 : Int), .int .u64 (r0 : Int)])) : Ret 65 #[.int .i64 l, .agg #[.int .u64 (ah : Int), .int .u64 (al : Int)]] (.agg #[.int .u64 (r1 : Int), .int .u64 (r0 : Int)]) := by
  intro W
  go_enter Try.func65, Try.ntmps65
  go_wp2_with fail
  refine (HO.go _).mono ?_
  rintro e w1 ⟨rfl, hb1⟩
  have A : El w1 W.heap.size ah al := El.below ⟨by simp [go_sem], by simp [go_sem]⟩ hb1
  have R : Ew w1 (W.heap.size + 1) 0 0 := Ew.below ⟨⟨by simp [go_sem], by simp [go_sem]⟩, by simp [go_sem], by simp [go_sem]⟩ hb1
  have D : Below W.heap.size W w1 := (((Below.refl _ _).alloc (Nat.le_refl _) _).alloc (by simp) _).trans (hb1.mono (by simp <;> omega))
  obtain ⟨a1, a0⟩ := A
  clear hb1
  go_wp2_with fail
  refine (HS.go _).mono ?_
  rintro e w2 ⟨rfl, hb2⟩
  have D := D.trans (hb2.mono D.size)
  obtain ⟨⟨q1, q0⟩, f1, f0⟩ := R.below hb2
  clear hb2 a1 a0 R
  go_wp2
  refine bodyPost_ret (v := .agg #[.int .u64 (r1 : Int), .int .u64 (r0 : Int)]) (by simp [results, Try.results65, go_sem, *]) rfl ⟨rfl, ?_⟩
  exact (D.setCell (by simp) _).setCell (by simp) _
/-- The inverse of an element of a level. -/
theorem inv_of (l : Int) (ah al : Nat) (ho : ofB l ah al = true) (h1 : ah < 2 ^ 64) (h2 : al < 2 ^ 64) : Ret 65 #[.int .i64 l, .agg #[.int .u64 (ah : Int), .int .u64 (al : Int)]] (.agg #[.int .u64 (Tw.ivh ah al : Nat), .int .u64 (Tw.ivl ah al : Nat)]) := by
  have HO := of_ret l ah al h2
  rw [ho] at HO
  exact inv_ok l ah al _ _ HO (inverse_any ah al h1 h2)

end Go.Proofs.Ytnecjkdlmecgdaa
