/- Contracts of slices.Grow of nil, slices.Concat and weave.Join over the seat's translation. -/
import Derived.Test.YtflkchhdgiojgaaWvF
import Derived.Lib.AppendZeros
namespace Go.Proofs.Ytflkchhdgiojgaa
open Go.RowKit

theorem grow_none (W : World) :
    Calls Try.prog 44 #[.slice none 0 0, .int .i64 0] W fun e w' => e = .returned (.slice none 0 0) ∧ Below W.heap.size W w' := by
  go_enter Try.func44, Try.ntmps44
  go_wp2
  go_ret
  exact ⟨rfl, by first | exact Below.refl _ _ | go_grown⟩
set_option maxHeartbeats 1000000 in
theorem grow_some (n : Nat) (h0 : 0 < n) (hn : n ≤ 1000) (W : World) :
    Calls Try.prog 44 #[.slice none 0 0, .int .i64 (n : Int)] W fun e w' => ∃ v, e = .returned v ∧ w'.ownsRow W.heap.size 54 2 v 0 [] ∧ Below W.heap.size W w' := by
  obtain ⟨i0, hi, hz0, hz1, hz2⟩ := info_elem
  have HN : Hid (Try.prog.info? 54 = some i0 ∧ i0.zero = some (.agg #[.int .u64 0, .int .u64 0]) ∧ i0.size = 2 ∧ i0.bytes = 16) := ⟨hi, hz0, hz1, hz2⟩
  clear hi hz0 hz1 hz2
  have h1 : ¬ (n : Int) < 0 := by omega
  have h2 : (0 : Int) < (n : Int) := by omega
  go_enter Try.func44, Try.ntmps44
  have hC := grownCap_le_maxLen W n 0 54 (by simp only [maxLen]; omega)
  have hC2 := grownCap_ge W n 0 54
  go_wp2_with (at_builtin; refine Go.Lib.wpList_append_run _ rfl _ _ 22 3 rfl _ _ rfl rfl _ _ (Go.Lib.run_append_nil_zeros _ 22 3 _ 54 i0 (.agg #[.int .u64 0, .int .u64 0]) .i64 .i64 Try.underlying22 Try.underlying3 HN.out.1 HN.out.2.1 n h0 (by rw [HN.out.2.2.1]; decide) (by omega) (by rw [HN.out.2.2.2]; omega)) ?_)
  refine bodyPost_ret (v := .slice (some ⟨W.heap.size, 0, none⟩) 0 (grownCap W n 0 54)) (by simp [results, Try.results44, go_sem]) rfl ⟨_, rfl, ?_, ?_⟩
  · exact World.ownsRow_made W _ _ (Nat.le_refl _) hC (by rw [Array.size_append, size_zeroCells, size_zeroCells]; simp; omega)
  · exact ((Below.refl _ _).alloc (Nat.le_refl _) _).drew
/-- The pieces' elements, one behind the other. -/
theorem pcs_at (b off wide q i : Nat) (hi : i < q) : (pcs b off wide q).getD i (.slice none 0 0) = .slice (some ⟨b, off + i * wide * 2, none⟩) wide wide := by simp [pcs, List.getD, hi]
set_option maxHeartbeats 1000000 in
set_option maxRecDepth 100000 in
theorem concat_any (a' : Option Addr) (b wide q cap' n : Nat) (es : List (Nat × Nat)) (hq : es.length = n) (hqn : n = q * wide) (hw : 0 < wide) (hn : n ≤ 1000) (W : World) (hr : ERow W (some ⟨b, 0, none⟩) es)
    (hP : ∀ i, i < q → ∃ g, a' = some ⟨g, 0, none⟩ ∧ g < W.heap.size ∧ W.cell? ⟨g, i, none⟩ = some (.slice (some ⟨b, 0 + i * wide * 2, none⟩) wide wide)) :
    Calls Try.prog 26 #[.slice a' q cap'] W fun e w' => ∃ v, e = .returned v ∧ w'.ownsRow W.heap.size 54 2 v n (flat es) ∧ Below W.heap.size W w' := by
  have HP : Hid (∀ i, i < q → ∃ g, a' = some ⟨g, 0, none⟩ ∧ g < W.heap.size ∧ W.cell? ⟨g, i, none⟩ = some (.slice (some ⟨b, 0 + i * wide * 2, none⟩) wide wide)) := hP
  have HR : Hid (ERow W (some ⟨b, 0, none⟩) es) := hr
  have HG : Hid (∀ w, Calls Try.prog 44 #[.slice none 0 0, .int .i64 (n : Int)] w fun e w' => ∃ v, e = .returned v ∧ w'.ownsRow w.heap.size 54 2 v 0 [] ∧ Below w.heap.size w w') := fun w => by
    rcases Nat.eq_zero_or_pos n with rfl | h
    · refine (grow_none w).mono ?_
      rintro e w' ⟨rfl, h⟩
      exact ⟨_, rfl, World.ownsRow_nil _ _ _ _, h⟩
    · exact grow_some n h hn w
  have HQ : Hid (es.length = n ∧ n = q * wide) := ⟨hq, hqn⟩
  have hqq : q ≤ 1000 := by have := Nat.le_mul_of_pos_right q hw; omega
  clear hP hr hq hqn
  go_enter Try.func26, Try.ntmps26
  go_wp2_with fail
  go_loopw [3, 11] (fun v u wr => ∃ j f : Nat, f = j * wide ∧ j ≤ q ∧ v = .int .i64 f ∧ u = .int .i64 j ∧ W = wr) (fun _ u _ => q - (intOf u).toNat)
  case atStart => exact ⟨0, 0, by simp, Nat.zero_le _, rfl, rfl, rfl⟩
  case round =>
    obtain ⟨j, f, hf, hj, rfl, rfl, rfl⟩ := hrel
    have HF : Hid (f = j * wide) := hf
    clear hf
    by_cases hlt : j < q
    · obtain ⟨g, rfl, hg, cg⟩ := HP.out j hlt
      have hfn : f + wide ≤ n := by
        have := Nat.mul_le_mul_right wide (show j + 1 ≤ q from hlt)
        rw [HF.out, HQ.out.2]; rw [Nat.add_mul, Nat.one_mul] at this; exact this
      have j4 : IntKind.i64.wrap ((f : Int) + wide) = (f : Int) + wide := by rw [IntKind.wrap_i64]; omega
      have j5 : ¬ (f : Int) + wide < 0 := by omega
      go_wp2
      exact ⟨⟨j + 1, f + wide, by rw [HF.out, Nat.add_mul, Nat.one_mul], hlt, by simp, by simp, by first | rfl | trivial⟩, by simp [intOf]; omega⟩
    · obtain rfl : q = j := by omega
      obtain rfl : n = f := by rw [HF.out, HQ.out.2]
      obtain ⟨i0, hi, hz0, hz1, hz2⟩ := info_elem
      have HI : Hid (Try.prog.info? 54 = some i0 ∧ i0.zero = some (.agg #[.int .u64 0, .int .u64 0]) ∧ i0.size = 2 ∧ i0.bytes = 16) := ⟨hi, hz0, hz1, hz2⟩
      clear hi hz0 hz1 hz2 HF hlt hj
      go_wp2_with (go_at_call 44; refine (HG.out _).mono ?_; rintro e w1 ⟨v, rfl, hO, hb1⟩)
      have HO1 : Hid (w1.ownsRow W.heap.size 54 2 v 0 []) := hO
      have HB1 : Hid (Below W.heap.size W w1) := hb1
      clear hO hb1 HG
      go_loopw [6, 27] (fun v u wr => ∃ m : Nat, m ≤ q ∧ u = .int .i64 m ∧ wr.ownsRow W.heap.size 54 2 v (m * wide) (flat (es.take (m * wide))) ∧ Below W.heap.size W wr) (fun _ u _ => q - (intOf u).toNat)
      case atStart => exact ⟨0, Nat.zero_le _, rfl, by rw [Nat.zero_mul]; exact HO1.out, HB1.out⟩
      case round =>
        obtain ⟨m, hm, rfl, hO, hB⟩ := hrel
        have HO : Hid (wr.ownsRow W.heap.size 54 2 u6 (m * wide) (flat (es.take (m * wide)))) := hO
        have HB : Hid (Below W.heap.size W wr) := hB
        clear hO hB HO1 HB1
        by_cases hlt : m < q
        · obtain ⟨g, rfl, hg, cg⟩ := HP.out m hlt
          have dg := keepc HB.out cg
          rw [Nat.zero_add] at dg
          have hfn : m * wide + wide ≤ n := by
            have := Nat.mul_le_mul_right wide (show m + 1 ≤ q from hlt)
            rw [HQ.out.2]; rw [Nat.add_mul, Nat.one_mul] at this; exact this
          have HE : Hid (ERow wr (some ⟨b, m * wide * 2, none⟩) ((es.drop (m * wide)).take wide)) := by have := ERow.drop (n := m * wide) (HR.out.below HB.out); rw [Nat.zero_add] at this; exact ERow.take this
          have HL : Hid (((es.drop (m * wide)).take wide).length = wide) := by show _ = _; rw [List.length_take, List.length_drop, HQ.out.1]; omega
          have HT : Hid (es.take ((m + 1) * wide) = es.take (m * wide) ++ (es.drop (m * wide)).take wide) := by show _ = _; rw [Nat.add_mul, Nat.one_mul, List.take_add]
          have HA : Hid (flat (es.take (m * wide) ++ (es.drop (m * wide)).take wide) = flat (es.take (m * wide)) ++ flat ((es.drop (m * wide)).take wide)) := by show _ = _; simp [flat]
          obtain ⟨F, hF⟩ : ∃ F, Hid (F = m * wide) := ⟨_, rfl⟩
          have hfn' : F + wide ≤ n := by rw [hF.out]; exact hfn
          clear cg hfn
          go_wp2_with (at_builtin; refine wpList_append_own _ rfl _ _ 22 rfl W.heap.size 54 i0 (.agg #[.int .u64 0, .int .u64 0]) 2 16 Try.underlying22 HI.out.1 HI.out.2.1 HI.out.2.2.1 HI.out.2.2.2 rfl (by decide) _ _ _ rfl HO.out ⟨b, m * wide * 2, none⟩ wide wide (flat ((es.drop (m * wide)).take wide)) rfl (by rw [flat_len, HL.out]) (fun p u hu => HE.out.flatOn p u hu) (flat_ones _) (by rw [← hF.out]; simp only [maxLen]; omega) (by rw [← hF.out]; omega) HB.out.size ?_; intro v' w' hown' hgr _)
          refine ⟨⟨m + 1, hlt, by simp, ?_, ?_⟩, by simp [intOf]; omega⟩
          · rw [HT.out, HA.out, Nat.add_mul, Nat.one_mul]; exact hown'
          · exact HB.out.grown hgr HB.out.size fun k hk => (HO.out.lt k hk).1
        · obtain rfl : q = m := by omega
          have HO2 : Hid (wr.ownsRow W.heap.size 54 2 u6 n (flat es)) := by
            have := HO.out
            rw [← HQ.out.2, List.take_of_length_le (by rw [HQ.out.1]; exact Nat.le_refl _)] at this
            exact this
          clear HO
          go_wp2
          go_ret
          exact ⟨_, rfl, HO2.out, HB.out⟩
set_option maxHeartbeats 1000000 in
theorem join_any (a' : Option Addr) (b wide q cap' n : Nat) (es : List (Nat × Nat)) (hq : es.length = n) (hqn : n = q * wide) (hw : 0 < wide) (hn : n ≤ 1000) (W : World) (hr : ERow W (some ⟨b, 0, none⟩) es)
    (hP : ∀ i, i < q → ∃ g, a' = some ⟨g, 0, none⟩ ∧ g < W.heap.size ∧ W.cell? ⟨g, i, none⟩ = some (.slice (some ⟨b, 0 + i * wide * 2, none⟩) wide wide)) :
    Calls Try.prog 10 #[.slice a' q cap'] W fun e w' => ∃ a cap, e = .returned (.slice a n cap) ∧ ERow w' a es ∧ Below W.heap.size W w' := by
  have HC := concat_any a' b wide q cap' n es hq hqn hw hn W hr hP
  clear hqn hr hP
  go_enter Try.func10, Try.ntmps10
  go_wp2_with (go_at_call 26; refine HC.mono ?_; rintro e w1 ⟨v, rfl, hO, hb1⟩)
  go_ret
  rw [← hq] at hO
  obtain ⟨a, cap, rfl, hE⟩ := own_row hO
  exact ⟨a, cap, by rw [← hq]; rfl, hE, hb1⟩
end Go.Proofs.Ytflkchhdgiojgaa
