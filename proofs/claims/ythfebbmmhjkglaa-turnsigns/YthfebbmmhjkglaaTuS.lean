/- TurnSigns: what hinders, told by both sides; the sign as the document's double sum. -/
import Derived.Test.YthfebbmmhjkglaaTuM
namespace Go.Proofs.Ythfebbmmhjkglaa
open Go.RowKit
open Cb
open Tw (pm)

theorem sgn2_ws (k : Int) (p r : List (Nat × Nat)) (t n : Nat) (hn : 2 ^ p.length = n) (ht : t < n) : sgn2 k p r t = xs n fun i => xs n fun y => if wsB k n t i y = true then pm (wt p i) (wt r y) else (0, 0) := by
  subst hn
  rw [sgn2_sum, xs_swap]
  refine xs_congr _ fun y hy => ?_
  rw [sgn_ws k p t y ht hy, xs_pm]
  refine xs_congr _ fun x _ => ?_
  split
  · rfl
  · exact zero_pm _
theorem my18_no {k v s : Int} (hf : ftB k v s = false) (l : Int) (p : List (Nat × Nat)) : my18 l k v s p = 1 := by
  unfold my18
  rw [if_neg (by rw [hf]; simp)]
theorem my18_hd1 {k : Int} {q t : Nat} (hf : ftB k (q : Int) (t : Int) = true) (l : Int) (p : List (Nat × Nat)) : my18 l k q t p = hd1 l q p := by
  unfold my18 hd1
  by_cases hl : 0 ≤ l ∧ l ≤ 7
  · rw [if_pos ⟨hl, hf⟩, if_pos hl]
    by_cases h : p.length = q
    · rw [if_pos h, if_pos (by omega)]
    · rw [if_neg h, if_neg (by omega)]
  · rw [if_neg (fun h => hl h.1), if_neg hl]
theorem hd2_hd1 (l : Int) (q : Nat) (p r : List (Nat × Nat)) : hd2 l q p r = if hd1 l q p = 0 ∨ (hd1 l q p = 5 ∧ hd1 l q r = 6) then hd1 l q r else hd1 l q p := by
  unfold hd2 hd1
  by_cases hl : 0 ≤ l ∧ l ≤ 7
  · simp only [if_pos hl]
    by_cases h : p.length = q
    · simp only [if_pos h]
      by_cases h' : r.length = q
      · simp only [if_pos h']
        by_cases x : (p.all fun e => ofB l (e.1 : Int) (e.2 : Int)) = true
        · simp [x]
        · by_cases y : (r.all fun e => ofB l (e.1 : Int) (e.2 : Int)) = true
          · simp only [if_neg x, if_pos y]; decide
          · simp only [if_neg x, if_neg y]; decide
      · simp only [if_neg h']
        by_cases x : (p.all fun e => ofB l (e.1 : Int) (e.2 : Int)) = true
        · simp only [if_pos x]; decide
        · simp only [if_neg x]; decide
    · simp only [if_neg h]
      rw [if_neg (by omega)]
  · simp only [if_neg hl]
    decide
theorem ts_no (l k v s : Int) (pa ra : Option Addr) (pc rc : Nat) (p r : List (Nat × Nat)) (h1 : ¬ (4 < v ∧ v ≤ 6)) (h2 : ¬ 6 < p.length) (h3 : ¬ 6 < r.length) (hp : ltE p) (hr : ltE r) (W : World) (hP : ERow W pa p) (hR : ERow W ra r) (h0 : ¬ my18 l k v s p = 0) :
    Calls Try.prog 4 #[.int .i64 l, .agg #[.int .i64 k, .int .i64 v, .int .i64 s], .agg #[.slice pa p.length pc, .slice ra r.length rc]] W fun e w' => e = .returned (.bool true) ∧ Below W.heap.size W w' := by
  cases hf : ftB k v s with
  | false =>
    have ea := my18_no hf l p
    have eb := my18_no hf l r
    refine ts_err l k v s pa ra pc rc p r h1 h2 h3 hp hr W hP hR 1 1 1 ea eb rfl (by decide) ?_ ?_
    · intro w _
      exact tat_err l k v s 1 pa ra pc rc p r w (by decide) fun w' b _ _ _ => (thind_no l k v s hf _ _ _).go w'
    · intro w _
      exact trow_e l k v s 1 pa pc p (by decide) w fun w' b _ _ => (thind_no l k v s hf _ _ _).go w'
  | true =>
    obtain ⟨⟨f1, f2⟩, ⟨f3, f4⟩, _⟩ := ftB_true hf
    obtain ⟨q, rfl⟩ : ∃ q : Nat, v = q := ⟨v.toNat, by omega⟩
    obtain ⟨t, rfl⟩ : ∃ t : Nat, s = t := ⟨s.toNat, by omega⟩
    have ea := my18_hd1 hf l p
    have eb := my18_hd1 hf l r
    rw [ea] at h0
    have e2 := hd2_hd1 l q p r
    have h02 : ¬ hd2 l q p r = 0 := by
      rw [e2]
      split
      · rename_i hc
        rcases hc with hc | hc
        · exact absurd hc h0
        · omega
      · exact h0
    refine ts_err l k q t pa ra pc rc p r h1 h2 h3 hp hr W hP hR _ _ _ ea eb e2 h0 ?_ ?_
    · intro w hw
      exact tat_err l k q t _ pa ra pc rc p r w h02 fun w' b hb' hc hc' => thind2 l k q t hf b pa ra pc rc p r hp hr (by omega) (by omega) w' ((hP.below hw).below hb') ((hR.below hw).below hb') hc hc'
    · intro w hw
      exact trow_e l k q t _ pa pc p h0 w fun w' b hb' hc => thind1 l k q t hf b pa pc p hp (by omega) w' ((hP.below hw).below hb') hc
end Go.Proofs.Ythfebbmmhjkglaa
