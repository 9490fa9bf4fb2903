/- Contracts of Box and Times; bytes, their inverses, products and boxes as they are reckoned; the document's Times and Box; the law's awake; over the seat's translation. -/
import Derived.Test.YtfepgoddoohpbaaPmD
namespace Go.Proofs.Ytfepgoddoohpbaa
open Go.RowKit

theorem invv_bit (b : Nat) (hb : b < 2) : invv 3 (0, b) = (0, b) := by
  have h := Tw.iv_bit (al := b) hb
  have : b = 0 ∨ b = 1 := by omega
  unfold invv
  rw [if_pos (by rcases this with rfl | rfl <;> decide)]
  exact Prod.ext h.1 h.2
theorem bx_0 : bx 0 = 99 := by
  unfold bx binv
  rw [invv_bit 0 (by decide)]
  decide
theorem bx_1 : bx 1 = 124 := by
  unfold bx binv
  rw [invv_bit 1 (by decide)]
  decide
theorem tmv_21 : tmv 2 1 = 2 := by
  unfold tmv tmul
  rw [if_pos (by decide), mulv_of (by decide) (by decide), Tw.pm_one' (0, 2) (by decide) (by decide)]
  rfl


theorem of_byte {b : Nat} (hb : b < 256) : ofB 3 ((0 : Nat) : Int) (b : Int) = true := (ofB_iff 3 0 b (by decide)).2 (Or.inr ⟨rfl, hb⟩)
theorem binv_eq {b : Nat} (hb : b < 256) : binv b = Tw.ik 3 b ∧ (invv 3 (0, b)).1 = 0 ∧ (invv 3 (0, b)).2 = Tw.ik 3 b := by
  have h := Tw.iv_low 3 b (by decide) hb
  have hl := Tw.ik_lt 3 b
  have e : invv 3 (0, b) = (0, Tw.ik 3 b) := by
    unfold invv
    rw [if_pos (of_byte hb)]
    exact Prod.ext h.1 h.2
  unfold binv
  rw [e]
  exact ⟨Nat.mod_eq_of_lt (show Tw.ik 3 b < 256 from hl), rfl, rfl⟩
theorem tmul_eq {k b : Nat} (hk : k < 256) (hb : b < 256) : tmul k b = Tw.px k b ∧ Tw.px k b < 256 := by
  have hl := Tw.px_closed 3 k b (by decide) hk hb
  unfold tmul
  rw [mulv_of (l := 3) (a := (0, k)) (b := (0, b)) (of_byte hk) (of_byte hb)]
  have e : (Tw.pm (0, k) (0, b)).2 = Tw.px k b := Tw.pml_low k b
  rw [e]
  exact ⟨Nat.mod_eq_of_lt hl, hl⟩
theorem ik_ik {b : Nat} (hb : b < 256) : Tw.ik 3 (Tw.ik 3 b) = b := by
  have all : ∀ j : Fin 256, Tw.ik 3 (Tw.ik 3 j.val) = j.val := by decide +kernel
  exact all ⟨b, hb⟩
/-- Back through the turns of the box. -/
def unturn (y : Nat) : Nat := rl8 (y ^^^ 99) 1 ^^^ rl8 (y ^^^ 99) 3 ^^^ rl8 (y ^^^ 99) 6
theorem unturn_boxp {x : Nat} (hx : x < 256) : unturn (boxp x 4) = x := by
  have all : ∀ j : Fin 256, unturn (boxp j.val 4) = j.val := by decide +kernel
  exact all ⟨x, hx⟩
theorem boxp_unturn {x : Nat} (hx : x < 256) : boxp (unturn x) 4 = x ∧ unturn x < 256 := by
  have all : ∀ j : Fin 256, boxp (unturn j.val) 4 = j.val ∧ unturn j.val < 256 := by decide +kernel
  exact all ⟨x, hx⟩
/-- The byte whose box it is. -/
def unbx (y : Nat) : Nat := Tw.ik 3 (unturn y)
theorem unbx_bx {b : Nat} (hb : b < 256) : unbx (bx b) = b := by
  unfold unbx bx
  rw [(binv_eq hb).1, unturn_boxp (Tw.ik_lt 3 b), ik_ik hb]
theorem bx_unbx {y : Nat} (hy : y < 256) : bx (unbx y) = y ∧ unbx y < 256 := by
  have h := boxp_unturn hy
  have hl : unbx y < 256 := Tw.ik_lt 3 _
  refine ⟨?_, hl⟩
  unfold bx
  rw [(binv_eq hl).1]
  unfold unbx
  rw [ik_ik h.2, h.1]
theorem bx_inj {a b : Nat} (ha : a < 256) (hb : b < 256) (h : bx a = bx b) : a = b := by
  rw [← unbx_bx ha, ← unbx_bx hb, h]
theorem ubp_bx : ∀ n x, n ≤ 256 → x < n → ubp n (bx x) = x
  | 0, _, _, h => by omega
  | n + 1, x, hn, hx => by
    unfold ubp
    by_cases e : x = n
    · rw [if_pos (by rw [e]), e]
    · rw [if_neg (fun h => e (bx_inj (by omega) (by omega) h))]
      exact ubp_bx n x (by omega) (by omega)
theorem ubp_eq {y : Nat} (hy : y < 256) : ubp 256 y = unbx y := by
  have h := bx_unbx hy
  have := ubp_bx 256 (unbx y) (Nat.le_refl _) h.2
  rwa [h.1] at this


/-- A byte turned left n times. -/
def lft (x : Nat) : Nat → Nat
  | 0 => x
  | n + 1 => 2 * lft x n % 256 + lft x n / 128
theorem lft_lt (x : Nat) (hx : x < 256) : ∀ n, lft x n < 256
  | 0 => hx
  | n + 1 => by
    have := lft_lt x hx n
    unfold lft
    omega
theorem box_lft {x : Nat} (hx : x < 256) : x ^^^ lft x 1 ^^^ lft x 2 ^^^ lft x 3 ^^^ lft x 4 ^^^ 99 = boxp x 4 := by
  have all : ∀ j : Fin 256, j.val ^^^ lft j.val 1 ^^^ lft j.val 2 ^^^ lft j.val 3 ^^^ lft j.val 4 ^^^ 99 = boxp j.val 4 := by decide +kernel
  exact all ⟨x, hx⟩
theorem i64_xor8 (a b : Nat) (ha : a < 256) (hb : b < 256) : bits .xor .i64 (a : Int) (b : Int) = ((a ^^^ b : Nat) : Int) := by
  have hx : a ^^^ b < 2 ^ 8 := Nat.xor_lt_two_pow (by omega) (by omega)
  show IntKind.i64.wrap ((BitVec.ofInt 64 (a : Int) ^^^ BitVec.ofInt 64 (b : Int)).toNat : Int) = _
  rw [BitVec.toNat_xor, ofInt_u64 a (by omega), ofInt_u64 b (by omega), IntKind.wrap_i64]
  omega
end Go.Proofs.Ytfepgoddoohpbaa
