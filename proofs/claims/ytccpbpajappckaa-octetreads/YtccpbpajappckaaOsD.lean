/- The contract of the document's reader's Elem, all cases. -/
import Derived.Test.YtccpbpajappckaaOsC
namespace Go.Proofs.Ytccpbpajappckaa
open Go.RowKit

theorem rR_elem (s : ByteArray) (e l : Int) (W : World) : Calls Try.prog 28 #[.agg #[.string s, .int .i64 e], .int .i64 l] W fun r w' => ∃ v, r = .returned (.agg #[.string (rdElem s e l).1, .int .i64 (rdElem s e l).2.1, v]) ∧ OneE W.heap.size w' v (rdElem s e l).2.1 (rdElem s e l).2.2 ∧ Below W.heap.size W w' := by
  by_cases he : e = 0
  · subst he
    obtain ⟨wn, hwn, h16⟩ := wide_nat l
    rcases Nat.eq_zero_or_pos wn with h0 | h0
    · subst h0
      have hl : levelB l = false := (wide_level l).1 hwn
      have hr : rdElem s 0 l = (⟨#[]⟩, 1, (0, 0)) := by
        unfold rdElem rdHas
        rw [if_pos rfl, hl]; rfl
      rw [hr]
      exact (rR_elem_lev s l hwn W).mono fun r w' ⟨h1, h2⟩ => ⟨_, h1, .inr ⟨by decide, rfl⟩, h2⟩
    · have hl : levelB l = true := by
        cases h : levelB l
        · have := (wide_level l).2 h; omega
        · rfl
      have hh : (rdHas s 0 l).2.2 = true := by unfold rdHas; rw [if_pos rfl, hl]; rfl
      by_cases hs : s.size < wn
      · have hr : rdElem s 0 l = (⟨#[]⟩, 11, (0, 0)) := by
          unfold rdElem
          rw [if_pos hh, hwn, if_pos (by omega)]
        rw [hr]
        exact (rR_elem_short s l wn hwn h0 hs W).mono fun r w' ⟨h1, h2⟩ => ⟨_, h1, .inr ⟨by decide, rfl⟩, h2⟩
      · have hle : wn ≤ s.size := by omega
        have hx : lwv (s.extract 0 wn) wn = lwv s wn := lwv_ext s wn hle wn (Nat.le_refl _)
        have hr : rdElem s 0 l = if ofB l ((lwv s wn).1 : Int) ((lwv s wn).2 : Int) = true then (s.extract wn s.size, 0, lwv s wn) else (⟨#[]⟩, 5, (0, 0)) := by
          unfold rdElem
          rw [if_pos hh, hwn, if_neg (by omega), Int.toNat_natCast, hx]
        rw [hr]
        cases ho : ofB l ((lwv s wn).1 : Int) ((lwv s wn).2 : Int)
        · rw [if_neg (by decide)]
          exact (rR_elem_in0 s l wn hwn h0 h16 hle _ rfl (lwv_lt s wn h16) ho W).mono fun r w' ⟨v, h1, h2, h3⟩ => ⟨v, h1, by rcases h2 with ⟨h, _⟩ | h; exact absurd h (by decide); exact .inr h, h3⟩
        · rw [if_pos rfl]
          exact rR_elem_in1 s l wn hwn h0 h16 hle _ rfl (lwv_lt s wn h16) ho W
  · have hr : rdElem s e l = (s, e, (0, 0)) := by
      unfold rdElem rdHas
      rw [if_neg he]; rfl
    rw [hr]
    exact (rR_elem_err s e l he W).mono fun r w' ⟨h1, h2⟩ => ⟨_, h1, .inr ⟨he, rfl⟩, h2⟩
end Go.Proofs.Ytccpbpajappckaa
