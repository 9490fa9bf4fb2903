/- The contract of steeplelaw01.Same over the seat's translation: any two lists of one length. -/
import Derived.Test.YtbomgcmmfeahiaaSmA
namespace Go.Proofs.Ytbomgcmmfeahiaa
open Go.RowKit

set_option maxHeartbeats 2000000 in
theorem same_dec (a1 a2 : Option Addr) (cap1 cap2 n : Nat) (es fs : List (Nat × Nat)) (he : es.length = n) (hf : fs.length = n) (hn : n ≤ 100000) (W : World) (h1 : ERow W a1 es) (h2 : ERow W a2 fs) :
    Calls Try.prog 14 #[.slice a1 n cap1, .slice a2 n cap2] W fun e w' => e = .returned (.bool (decide (es = fs))) ∧ Below W.heap.size W w' := by
  have H1 : Hid (ERow W a1 es ∧ es.length = n) := ⟨h1, he⟩
  have H2 : Hid (ERow W a2 fs ∧ fs.length = n) := ⟨h2, hf⟩
  clear h1 h2 he hf
  go_enter Try.func14, Try.ntmps14
  go_wp2_with fail
  go_loopw [5] (fun u wr => ∃ j : Nat, j ≤ n ∧ u = .int .i64 j ∧ Hid (es.take j = fs.take j) ∧ Below W.heap.size W wr) (fun u _ => n - (intOf u).toNat)
  case atStart => exact ⟨0, Nat.zero_le _, rfl, (by rfl), Below.refl _ _⟩
  case round =>
    obtain ⟨j, hj, rfl, HT, hD⟩ := hrel
    have HD : Hid (Below W.heap.size W wr) := hD
    by_cases hlt : j < n
    · obtain ⟨b, off, rfl, hb, c1, c0⟩ := H1.out.1.cells j (by rw [H1.out.2]; exact hlt)
      obtain ⟨b', off', rfl, hb', c1', c0'⟩ := H2.out.1.cells j (by rw [H2.out.2]; exact hlt)
      have d1 := keepc hD c1
      have d0 := keepc hD c0
      have d1' := keepc hD c1'
      have d0' := keepc hD c0'
      have T1 : Hid (es.take (j + 1) = es.take j ++ [es.getD j (0, 0)]) := take_sn es j (by rw [H1.out.2]; exact hlt)
      have T2 : Hid (fs.take (j + 1) = fs.take j ++ [fs.getD j (0, 0)]) := take_sn fs j (by rw [H2.out.2]; exact hlt)
      have T3 : Hid (¬ es.getD j (0, 0) = fs.getD j (0, 0) → ¬ es = fs) := fun h e => h (by rw [e])
      clear c1 c0 c1' c0' hD
      generalize es.getD j (0, 0) = x at *
      generalize fs.getD j (0, 0) = y at *
      by_cases hxy : x = y
      · subst hxy
        go_wp2_with fail
        go_region_held3 (fun w => w.cell? ⟨b, off + j * 2, none⟩ = some (.int .u64 (x.1 : Nat)) ∧ w.cell? ⟨b, off + j * 2 + 1, none⟩ = some (.int .u64 (x.2 : Nat)) ∧ w.cell? ⟨b', off' + j * 2, none⟩ = some (.int .u64 (x.1 : Nat)) ∧ w.cell? ⟨b', off' + j * 2 + 1, none⟩ = some (.int .u64 (x.2 : Nat))) (go_keep) (fail)
        go_wp2
        exact ⟨⟨j + 1, hlt, by simp, (by show _ = _; rw [T1.out, T2.out, HT.out]), HD.out.drew⟩, by simp [intOf]; omega⟩
      · have HN : Hid (¬ es = fs) := T3.out hxy
        by_cases h1 : x.1 = y.1
        · have h2 : ¬ (x.2 : Int) = (y.2 : Int) := fun h => hxy (Prod.ext h1 (by omega))
          rw [← h1] at d1'
          clear h1 hxy T3
          go_wp2_with fail
          go_region_held3 (fun w => w.cell? ⟨b, off + j * 2, none⟩ = some (.int .u64 (x.1 : Nat)) ∧ w.cell? ⟨b, off + j * 2 + 1, none⟩ = some (.int .u64 (x.2 : Nat)) ∧ w.cell? ⟨b', off' + j * 2, none⟩ = some (.int .u64 (x.1 : Nat)) ∧ w.cell? ⟨b', off' + j * 2 + 1, none⟩ = some (.int .u64 (y.2 : Nat))) (go_keep) (fail)
          go_wp2
          go_ret
          exact ⟨by rw [decide_eq_false HN.out]; rfl, HD.out.drew⟩
        · have h2 : ¬ (x.1 : Int) = (y.1 : Int) := by omega
          clear h1 hxy T3
          go_wp2_with fail
          go_region_held3 (fun w => w.cell? ⟨b, off + j * 2, none⟩ = some (.int .u64 (x.1 : Nat)) ∧ w.cell? ⟨b, off + j * 2 + 1, none⟩ = some (.int .u64 (x.2 : Nat)) ∧ w.cell? ⟨b', off' + j * 2, none⟩ = some (.int .u64 (y.1 : Nat)) ∧ w.cell? ⟨b', off' + j * 2 + 1, none⟩ = some (.int .u64 (y.2 : Nat))) (go_keep) (fail)
          go_wp2
          go_ret
          exact ⟨by rw [decide_eq_false HN.out]; rfl, HD.out.drew⟩
    · obtain rfl : j = n := by omega
      have HE : Hid (es = fs) := by
        have h := HT.out
        rw [List.take_of_length_le (by rw [H1.out.2]; exact Nat.le_refl _), List.take_of_length_le (by rw [H2.out.2]; exact Nat.le_refl _)] at h
        exact h
      clear hD
      go_wp2
      go_ret
      exact ⟨by rw [decide_eq_true HE.out]; rfl, HD.out⟩
end Go.Proofs.Ytbomgcmmfeahiaa
