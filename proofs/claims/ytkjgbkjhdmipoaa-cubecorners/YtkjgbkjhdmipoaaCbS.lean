/- The contract of cube.Corner where there is such a corner, over the seat's translation. -/
import Derived.Test.YtkjgbkjhdmipoaaCbR
namespace Go.Proofs.Ytkjgbkjhdmipoaa
open Go.RowKit
open Cb
open Tw (pm)

set_option maxHeartbeats 4000000 in
set_option maxRecDepth 100000 in
theorem cor_ok (n i : Nat) (h1 : 1 ≤ n) (h2 : n ≤ 16) (hi : i < 2 ^ n) (W : World) :
    Calls Try.prog 7 #[.int .i64 (n : Int), .int .i64 (i : Int)] W fun e w' => ∃ g, e = .returned (.slice (some ⟨g, 0, none⟩) n n) ∧ ERow w' (some ⟨g, 0, none⟩) (crn n i) ∧ Below W.heap.size W w' := by
  obtain ⟨i0, hi0, hz0, hz1, hz2⟩ := info_elem
  have HN : Hid (Try.prog.info? 29 = some i0 ∧ i0.zero = some (.agg #[.int .u64 0, .int .u64 0]) ∧ i0.size = 2 ∧ i0.bytes = 16) := ⟨hi0, hz0, hz1, hz2⟩
  have g1 : ¬ (n : Int) < 1 := by omega
  have g2 : ¬ 16 < (n : Int) := by omega
  have hw := wrap_twoC n h2
  have h65 : i < 65536 := by have : 2 ^ n ≤ 2 ^ 16 := Nat.pow_le_pow_right (by decide) h2; omega
  have g3 : ¬ (i : Int) < 0 := by omega
  have g4 : ¬ (2 : Int) ^ n ≤ (i : Int) := by rw [show (2 : Int) ^ n = ((2 ^ n : Nat) : Int) by simp]; omega
  clear hi0 hz0 hz1 hz2 hi
  go_enter Try.func7, Try.ntmps7
  go_wp2_with (at_make; refine wpList_make_full _ rfl _ _ 22 rfl 0 29 i0 (.agg #[.int .u64 0, .int .u64 0]) 2 Try.underlying22 HN.out.1 HN.out.2.1 HN.out.2.2.1 .i64 .i64 _ _ n rfl rfl rfl rfl (by rw [HN.out.2.2.2]; omega) (by simp only [maxLen]; omega) (Nat.zero_le _) ?_; intro w2 own2 hgr2)
  have D : Hid (Below W.heap.size W w2) := (Below.refl _ _).grown hgr2 (Nat.le_refl _) (fun k hk => by cases hk)
  obtain ⟨f0, R0⟩ := own_rowT own2 (rfl : n * 2 = n * 2)
  clear own2 hgr2 HN g1 g2 hw g3 g4
  go_loopw [27] (fun u wr => ∃ (j : Nat) (f : Nat → Value), j ≤ n ∧ u = .int .i64 j ∧ wr.rowIs W.heap.size 29 (n * 2) f ∧ Hid (∀ p, p < j * 2 → f p = tcell (fun j => (0, i / 2 ^ j % 2)) p) ∧ Below W.heap.size W wr) (fun u _ => n - (intOf u).toNat)
  case atStart => exact ⟨0, f0, Nat.zero_le _, rfl, R0, (fun p hp => by omega), D.out⟩
  case round =>
    obtain ⟨j, f, hj, rfl, hRr, HF, hD⟩ := hrel
    clear R0 D
    have HRr : Hid (wr.rowIs W.heap.size 29 (n * 2) f) := hRr
    have HD : Hid (Below W.heap.size W wr) := hD
    have hgs : W.heap.size < wr.heap.size := hRr.lt
    clear hRr hD
    by_cases hlt : j < n
    · have c1 := HRr.out.cell (i := j * 2) (by omega)
      have c0 := HRr.out.cell (i := j * 2 + 1) (by omega)
      have z1 := HRr.out.frozen (j * 2)
      have z0 := HRr.out.frozen (j * 2 + 1)
      have hb := bit_intC i j h65
      have hb2 : i / 2 ^ j % 2 < 2 := Nat.mod_lt _ (by decide)
      obtain ⟨B, hB⟩ : ∃ B, B = i / 2 ^ j % 2 := ⟨_, rfl⟩
      rw [← hB] at hb hb2
      have HBB : Hid (B = i / 2 ^ j % 2) := hB
      clear hB
      have hwr : IntKind.u64.wrap (B : Int) = (B : Int) := by rw [IntKind.wrap_u64]; omega
      go_wp2
      refine ⟨⟨j + 1, _, hlt, by simp, (HRr.out.set (j * 2) _).set (j * 2 + 1) _, fun p hp => ?_, (HD.out.setCell (Nat.le_refl _) _).setCell (Nat.le_refl _) _⟩, by simp [intOf]; omega⟩
      have hF := HF.out p
      unfold tcell at hF ⊢
      by_cases e1 : p = j * 2 + 1
      · rw [if_pos e1, if_neg (by omega), show p / 2 = j by omega, HBB.out]
      · rw [if_neg e1]
        by_cases e2 : p = j * 2
        · rw [if_pos e2, if_pos (by omega)]; rfl
        · rw [if_neg e2]; exact hF (by omega)
    · obtain rfl : n = j := by omega
      have HE : Hid (ERow wr (some ⟨W.heap.size, 0, none⟩) (crn n i)) := row_tab (crn_len n i) HRr.out fun p hp => by
        rw [HF.out p hp]
        unfold tcell
        rw [crn_at n i (p / 2) (by omega)]
      clear HF
      go_wp2
      go_ret
      exact ⟨_, rfl, HE.out, HD.out⟩
end Go.Proofs.Ytkjgbkjhdmipoaa
