/- Products of pairs of words: order, grouping, sums, one; closed in a level; elements cut down to a level. No Go but the names of contracts. -/
import Derived.Test.YtbmjceiogfhffabTwK
namespace Go.Proofs.Ytbmjceiogfhffab
open Go.RowKit
namespace Tw

theorem pm_of {ah al bh bl rh rl : Nat} (h1 : rh < 2 ^ 64) (h2 : rl < 2 ^ 64) (h : mul 7 (d7 ah al) (d7 bh bl) = d7 rh rl) : pmh ah al bh bl = rh ∧ pml ah al bh bl = rl :=
  d7_inj (pmh_lt _ _ _ _) (pml_lt _ _ _ _) h1 h2 (by rw [d7_mul]; exact h)
theorem pm_comm (ah al bh bl : Nat) : pmh bh bl ah al = pmh ah al bh bl ∧ pml bh bl ah al = pml ah al bh bl :=
  d7_inj (pmh_lt _ _ _ _) (pml_lt _ _ _ _) (pmh_lt _ _ _ _) (pml_lt _ _ _ _) (by rw [d7_mul, d7_mul, mul_comm])
theorem pm_assoc (ah al bh bl ch cl : Nat) : pmh (pmh ah al bh bl) (pml ah al bh bl) ch cl = pmh ah al (pmh bh bl ch cl) (pml bh bl ch cl) ∧ pml (pmh ah al bh bl) (pml ah al bh bl) ch cl = pml ah al (pmh bh bl ch cl) (pml bh bl ch cl) :=
  d7_inj (pmh_lt _ _ _ _) (pml_lt _ _ _ _) (pmh_lt _ _ _ _) (pml_lt _ _ _ _) (by rw [d7_mul, d7_mul, d7_mul, d7_mul, mul_assoc])
theorem pm_add (ah al bh bl ch cl : Nat) : pmh ah al (bh ^^^ ch) (bl ^^^ cl) = pmh ah al bh bl ^^^ pmh ah al ch cl ∧ pml ah al (bh ^^^ ch) (bl ^^^ cl) = pml ah al bh bl ^^^ pml ah al ch cl :=
  d7_inj (pmh_lt _ _ _ _) (pml_lt _ _ _ _) (Nat.xor_lt_two_pow (pmh_lt _ _ _ _) (pmh_lt _ _ _ _)) (Nat.xor_lt_two_pow (pml_lt _ _ _ _) (pml_lt _ _ _ _)) (by rw [d7_mul, d7_add, d7_add, d7_mul, d7_mul, mul_add])
theorem d7_one : d7 0 1 = one 7 := by
  unfold d7; rw [dec_one, dec_zero]; rfl
theorem d7_zero : d7 0 0 = zero 7 := by
  unfold d7; rw [dec_zero]; rfl
theorem pm_one {ah al : Nat} (h1 : ah < 2 ^ 64) (h2 : al < 2 ^ 64) : pmh ah al 0 1 = ah ∧ pml ah al 0 1 = al :=
  d7_inj (pmh_lt _ _ _ _) (pml_lt _ _ _ _) h1 h2 (by rw [d7_mul, d7_one, mul_one])
theorem pm_sq_add (ah al bh bl : Nat) : pmh (ah ^^^ bh) (al ^^^ bl) (ah ^^^ bh) (al ^^^ bl) = pmh ah al ah al ^^^ pmh bh bl bh bl ∧ pml (ah ^^^ bh) (al ^^^ bl) (ah ^^^ bh) (al ^^^ bl) = pml ah al ah al ^^^ pml bh bl bh bl :=
  d7_inj (pmh_lt _ _ _ _) (pml_lt _ _ _ _) (Nat.xor_lt_two_pow (pmh_lt _ _ _ _) (pmh_lt _ _ _ _)) (Nat.xor_lt_two_pow (pml_lt _ _ _ _) (pml_lt _ _ _ _)) (by
    rw [d7_mul, d7_add, d7_add, d7_mul, d7_mul, mul_add, add_mul, add_mul, mul_comm 7 (d7 bh bl) (d7 ah al), add_assoc, add_self_left])
theorem pmh_low (al bl : Nat) : pmh 0 al 0 bl = 0 := by
  unfold pmh; rw [px_zero, px_comm 0 bl, px_comm 0 0, px_zero, px_zero, px_zero]
  rfl
theorem pml_low (al bl : Nat) : pml 0 al 0 bl = px al bl := by
  unfold pml; rw [px_zero, Nat.xor_zero]
end Tw

theorem ofB_iff (k h l : Nat) (hk : k < 8) : ofB (k : Int) (h : Int) (l : Int) = true ↔ k = 7 ∨ (h = 0 ∧ l < 2 ^ 2 ^ k) := by
  have e : levelB (k : Int) = true := by simp [levelB]; omega
  unfold ofB
  rw [e]
  simp only [Bool.true_and, Bool.or_eq_true, Bool.and_eq_true, decide_eq_true_eq, Int.toNat_natCast]
  have h2 : ((l : Int) < 2 ^ 2 ^ k) ↔ l < 2 ^ 2 ^ k := by
    rw [show (2 : Int) ^ 2 ^ k = ((2 ^ 2 ^ k : Nat) : Int) by simp]; exact Int.ofNat_lt
  rw [h2]
  omega
theorem of_pm {k ah al bh bl : Nat} (hk : k < 8) (ha : ofB (k : Int) (ah : Int) (al : Int) = true) (hb : ofB (k : Int) (bh : Int) (bl : Int) = true) : ofB (k : Int) (Tw.pmh ah al bh bl : Nat) (Tw.pml ah al bh bl : Nat) = true := by
  rw [ofB_iff _ _ _ hk] at *
  rcases ha with h | ⟨rfl, h1⟩
  · exact .inl h
  · rcases hb with h | ⟨rfl, h2⟩
    · exact .inl h
    · by_cases h7 : k = 7
      · exact .inl h7
      · right
        rw [Tw.pmh_low, Tw.pml_low]
        exact ⟨rfl, Tw.px_closed k _ _ (by omega) h1 h2⟩
theorem of_xor {k ah al bh bl : Nat} (hk : k < 8) (ha : ofB (k : Int) (ah : Int) (al : Int) = true) (hb : ofB (k : Int) (bh : Int) (bl : Int) = true) : ofB (k : Int) (ah ^^^ bh : Nat) (al ^^^ bl : Nat) = true := by
  rw [ofB_iff _ _ _ hk] at *
  rcases ha with h | ⟨rfl, h1⟩
  · exact .inl h
  · rcases hb with h | ⟨rfl, h2⟩
    · exact .inl h
    · exact .inr ⟨rfl, Nat.xor_lt_two_pow h1 h2⟩
theorem of_one (k : Nat) (hk : k < 8) : ofB (k : Int) 0 1 = true := by
  have := (ofB_iff k 0 1 hk).2 (.inr ⟨rfl, Nat.one_lt_two_pow (Nat.ne_of_gt (Nat.two_pow_pos k))⟩)
  exact this
theorem of_zero (k : Nat) (hk : k < 8) : ofB (k : Int) 0 0 = true := by
  have := (ofB_iff k 0 0 hk).2 (.inr ⟨rfl, Nat.two_pow_pos _⟩)
  exact this
theorem of_up {k m h l : Nat} (hk : k < 8) (hm : m < 8) (hle : k ≤ m) (ha : ofB (k : Int) (h : Int) (l : Int) = true) : ofB (m : Int) (h : Int) (l : Int) = true := by
  rw [ofB_iff _ _ _ hk] at ha
  rw [ofB_iff _ _ _ hm]
  rcases ha with rfl | ⟨rfl, h1⟩
  · left; omega
  · exact .inr ⟨rfl, Nat.lt_of_lt_of_le h1 (by obtain ⟨j, rfl⟩ := Nat.exists_eq_add_of_le hle; exact Tw.pow_le_up k j)⟩
theorem cut_closed (k : Nat) (hk : k < 8) (e : Nat × Nat) (h2 : e.2 < 2 ^ 64) : ofB (k : Int) ((cutE k e).1 : Nat) ((cutE k e).2 : Nat) = true := by
  rw [ofB_iff _ _ _ hk]
  by_cases h7 : k = 7
  · exact .inl h7
  · right
    unfold cutE
    by_cases h6 : k < 6
    · simp [h6, show k < 7 by omega]; exact Nat.mod_lt _ (Nat.two_pow_pos _)
    · obtain rfl : k = 6 := by omega
      simpa using h2
theorem cut_lt (k : Nat) (e : Nat × Nat) (h1 : e.1 < 2 ^ 64) (h2 : e.2 < 2 ^ 64) : (cutE k e).1 < 2 ^ 64 ∧ (cutE k e).2 < 2 ^ 64 := by
  unfold cutE
  refine ⟨?_, ?_⟩
  · show (if k < 7 then 0 else e.1) < 2 ^ 64
    split
    · exact Nat.two_pow_pos _
    · exact h1
  · show (if k < 6 then e.2 % 2 ^ 2 ^ k else e.2) < 2 ^ 64
    split
    · exact Nat.lt_of_le_of_lt (Nat.mod_le _ _) h2
    · exact h2
theorem cut_level (level : Int) : ∃ k : Nat, k < 8 ∧ (wrap64 (level.tmod 8 + 8)).tmod 8 = (k : Int) := by
  have h1 : -8 < level.tmod 8 := by
    have := Int.lt_tmod_of_pos level (show (0 : Int) < 8 by decide); omega
  have h2 : level.tmod 8 < 8 := Int.tmod_lt_of_pos _ (by decide)
  have h3 : wrap64 (level.tmod 8 + 8) = level.tmod 8 + 8 := by unfold wrap64; omega
  rw [h3]
  have h5 : 0 ≤ level.tmod 8 + 8 := by omega
  generalize level.tmod 8 + 8 = n at *
  have h4 : n.tmod 8 = n % 8 := Int.tmod_eq_emod_of_nonneg (by omega)
  rw [h4]
  exact ⟨(n % 8).toNat, by omega, by omega⟩

/-- The cells of a row of elements. -/
theorem row_cells {w : World} {base : Nat} {v : Value} {es : List (Nat × Nat)} (hne : 0 < es.length) (h : w.ownsRow base 62 2 v es.length (flat es)) :
    ∃ g cap, v = .slice (some ⟨g, 0, none⟩) es.length cap ∧ ∀ j, j < es.length * 2 → w.cell? ⟨g, j, none⟩ = (flat es)[j]? := by
  rcases h.2 with ⟨_, h0⟩ | ⟨g, cap, cur, rfl, _⟩
  · omega
  · exact ⟨g, cap, rfl, fun j hj => h.cellAt j hj⟩
end Go.Proofs.Ytbmjceiogfhffab
