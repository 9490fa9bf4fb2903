/- Contract of tower.product, whole. -/
import Derived.Test.YtjllijoiakccpaaTwF
import Derived.Test.YtjllijoiakccpaaTwM
import Derived.Test.YtjllijoiakccpaaTwB
import Derived.Test.YtjllijoiakccpaaPOctC
import Derived.Deep.RegionWith
namespace Go.Proofs.Ytjllijoiakccpaa
open Go.RowKit
open Tw (px)

theorem lvl_cases (hi lo : Nat) : (hi ≠ 0 ∧ lvl hi lo = 7) ∨ (hi = 0 ∧ (lvl hi lo = 0 ∨ lvl hi lo = 1 ∨ lvl hi lo = 2 ∨ lvl hi lo = 3 ∨ lvl hi lo = 4 ∨ lvl hi lo = 5 ∨ lvl hi lo = 6)) := by
  unfold lvl
  by_cases h : hi = 0
  · right
    refine ⟨h, ?_⟩
    rw [if_neg (by simpa using h)]
    repeat' split
    all_goals omega
  · left
    exact ⟨h, if_pos h⟩
theorem lvl_lim (lo : Nat) (h : lo < 2 ^ 64) : lo < lim (lvl 0 lo) := by
  unfold lvl
  simp only [ne_eq, not_true_eq_false, if_false]
  repeat' split
  all_goals (simp [lim]; omega)
theorem mixed (ah al bh bl : Nat) : (px (bh ^^^ bl) (ah ^^^ al) ^^^ px bh ah) ^^^ px bl al = px ah bl ^^^ px al bh := by
  rw [Tw.px_lin, Tw.px_comm _ ah, Tw.px_lin, Tw.px_comm _ al, Tw.px_lin, Tw.px_comm bh ah, Tw.px_comm bl al]
  apply Nat.eq_of_testBit_eq
  intro i
  simp only [Nat.testBit_xor]
  cases (px ah bh).testBit i <;> cases (px ah bl).testBit i <;> cases (px al bh).testBit i <;> cases (px al bl).testBit i <;> rfl
end Go.Proofs.Ytjllijoiakccpaa

/- Contracts of tower.square, Add, Square over the seat's translation. -/
namespace Go.Proofs.Ytjllijoiakccpaa
open Go.RowKit
open Tw (px)

theorem keepc {W w1 : World} (hb : Below W.heap.size W w1) {b o : Nat} {v : Value} (h : W.cell? ⟨b, o, none⟩ = some v) : w1.cell? ⟨b, o, none⟩ = some v := by
  have hl : b < W.heap.size := by
    rcases Nat.lt_or_ge b W.heap.size with h1 | h1
    · exact h1
    · simp [World.cell?, Array.getElem?_eq_none h1] at h
  rw [hb.cell (p := ⟨b, o, none⟩) hl]; exact h
theorem keepf {W w1 : World} (hb : Below W.heap.size W w1) {b o : Nat} {v : Value} (h : W.cell? ⟨b, o, none⟩ = some v) (hf : W.frozen? ⟨b, o, none⟩ = false) : w1.frozen? ⟨b, o, none⟩ = false := by
  have hl : b < W.heap.size := by
    rcases Nat.lt_or_ge b W.heap.size with h1 | h1
    · exact h1
    · simp [World.cell?, Array.getElem?_eq_none h1] at h
  rw [hb.frozen (p := ⟨b, o, none⟩) hl]; exact hf

theorem pmh_self (ah al : Nat) : Tw.pmh ah al ah al = px 4294967296 (px ah ah) := by
  unfold Tw.pmh; rw [Tw.px_comm al ah, Nat.xor_self, Nat.zero_xor]
end Go.Proofs.Ytjllijoiakccpaa

/- Contracts of tower.Mul, Square, One, X, Bit and of steeplelaw02.awake over the seat's translation. -/
namespace Go.Proofs.Ytjllijoiakccpaa
open Go.RowKit
open Tw (px)

end Go.Proofs.Ytjllijoiakccpaa
