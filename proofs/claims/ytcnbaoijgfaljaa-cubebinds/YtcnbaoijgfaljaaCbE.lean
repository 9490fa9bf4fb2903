/- The contract of cube.last over the seat's translation. -/
import Derived.Test.YtcnbaoijgfaljaaCbD
namespace Go.Proofs.Ytcnbaoijgfaljaa
open Go.RowKit
open Cb
open Tw (pm)

set_option maxHeartbeats 4000000 in
set_option maxRecDepth 100000 in
theorem last_ok (k : Nat) (hk : k < 8) (a c : Option Addr) (cap cap2 m : Nat) (t p : List (Nat × Nat)) (hl : t.length = 2 ^ (p.length + m)) (h10 : t.length ≤ 1000) (ht : ltE t) (hp : ltE p) (ot : ofT k t) (op : ofT k p) (W : World) (ha : ERow W a t) (hc : ERow W c p) :
    Calls Try.prog 50 #[.int .i64 (k : Int), .slice a t.length cap, .slice c p.length cap2] W fun e w' => ∃ a' cap', e = .returned (.slice a' (2 ^ m) cap') ∧ ERow w' a' (lasts t p) ∧ Below W.heap.size W w' := by
  have hpos : 0 < t.length := by rw [hl]; exact Nat.two_pow_pos _
  have HC : Hid (Calls Try.prog 42 #[.slice a t.length cap] W fun e w' => ∃ a' b' cap', e = .returned (.slice a' t.length cap') ∧ (t.length = 0 ∨ a' = some ⟨b', 0, none⟩) ∧ t.length ≤ cap' ∧ ERow w' a' t ∧ Below W.heap.size W w') := ccloned a cap t (by omega) (row_some ha hpos cap) W ha
  have hp10 : p.length ≤ 10 := by
    rcases Nat.lt_or_ge 10 p.length with h | h
    · have : 2 ^ 11 ≤ 2 ^ (p.length + m) := Nat.pow_le_pow_right (by decide) (by omega)
      omega
    · exact h
  have HP : Hid (ERow W c p) := hc
  have HL : Hid (t.length = 2 ^ (p.length + m) ∧ t.length ≤ 1000) := ⟨hl, h10⟩
  have HT : Hid (ltE t ∧ ltE p ∧ ofT k t ∧ ofT k p) := ⟨ht, hp, ot, op⟩
  clear ha hc hl ht hp ot op h10 hpos
  go_enter Try.func50, Try.ntmps50
  go_wp2_with fail
  refine HC.out.mono ?_
  rintro e w1 ⟨a1, b1, cap1, rfl, hA1, hc1, hE1, hb1⟩
  clear HC hA1 hc1
  go_wp2_with fail
  go_loopw [7, 14] (fun v u wr => ∃ (j n : Nat) (a' : Option Addr) (cap' : Nat) (s : List (Nat × Nat)), j ≤ p.length ∧ u = .int .i64 j ∧ v = .slice a' s.length cap' ∧ Hid (s = lasts t (p.take j) ∧ n = p.length - j + m ∧ s.length = 2 ^ n) ∧ ERow wr a' s ∧ Below W.heap.size W wr) (fun _ u _ => p.length - (intOf u).toNat)
  case atStart => exact ⟨0, p.length + m, a1, cap1, t, Nat.zero_le _, rfl, rfl, ⟨rfl, by omega, HL.out.1⟩, hE1, hb1⟩
  case round =>
    obtain ⟨j, n, a', cap', s, hj, rfl, rfl, HS, hE, hD⟩ := hrel
    have HD : Hid (Below W.heap.size W wr) := hD
    have HE : Hid (ERow wr a' s) := hE
    clear hE hE1 hb1
    by_cases hlt : j < p.length
    · obtain ⟨b, off, rfl, hb, c1, c0⟩ := HP.out.cells j hlt
      have d1 := keepc hD c1
      have d0 := keepc hD c0
      have HK : Hid (p.take (j + 1) = p.take j ++ [p.getD j (0, 0)]) := take_sn p j hlt
      have hx : lt2 (p.getD j (0, 0)) := HT.out.2.1.at j
      have ox : ofE k (p.getD j (0, 0)) := HT.out.2.2.2.el hk j
      obtain ⟨n', hn'⟩ : ∃ n', n = n' + 1 := ⟨n - 1, by have := HS.out.2.1; omega⟩
      have h2 : s.length / 2 = 2 ^ n' := by rw [HS.out.2.2, hn', pow_half]
      have h4 : s.length = 2 * 2 ^ n' := by rw [HS.out.2.2, hn', Nat.pow_succ]; omega
      obtain ⟨d, hd⟩ : ∃ d, d = 2 ^ n' := ⟨_, rfl⟩
      rw [← hd] at h2 h4
      have hs10 : s.length ≤ 1000 := by
        have e1 : s.length ≤ t.length := by rw [HS.out.2.2, HL.out.1]; exact Nat.pow_le_pow_right (by decide) (by have := HS.out.2.1; omega)
        have := HL.out.2
        omega
      have lts : ltE s := by rw [HS.out.1]; exact lt_lasts _ _ HT.out.1
      have ots : ofT k s := by rw [HS.out.1]; exact of_lasts hk _ _ HT.out.2.2.1 fun e he => HT.out.2.2.2 e (List.mem_of_mem_take he)
      clear hD c1 c0
      generalize p.getD j (0, 0) = x at *
      have HH : Hid (∀ w, Below wr.heap.size wr w → Calls Try.prog 67 #[.int .i64 (k : Int), .slice a' s.length cap', .int .i64 (1 : Nat), .int .i64 (d : Nat), .agg #[.int .u64 (x.1 : Int), .int .u64 (x.2 : Int)]] w fun e w' => ∃ g, e = .returned (.slice (some ⟨g, 0, none⟩) d d) ∧ ERow w' (some ⟨g, 0, none⟩) (half 1 d s x) ∧ Below w.heap.size w w') := fun w hw => halved_ok k hk 1 d d a' cap' s x h2 hs10 (by omega) (by omega) (fun i hi => by omega) lts hx ots ox w (HE.out.below hw)
      have HG : Hid (half 1 d s x = lasts t (p.take (j + 1)) ∧ n' = p.length - (j + 1) + m ∧ (half 1 d s x).length = 2 ^ n' ∧ d = 2 ^ n') := ⟨by rw [HK.out, lasts_app, lasts_one, ← HS.out.1, lst1, h2], by have := HS.out.2.1; omega, by rw [half_len, h2, hd], hd⟩
      have hq : (s.length : Int).tdiv 2 = (d : Int) := by rw [Int.tdiv_eq_ediv_of_nonneg (by omega)]; omega
      have hq2 : IntKind.i64.wrap (d : Int) = (d : Int) := by rw [IntKind.wrap_i64]; omega
      clear h2 hd hn'
      clear HS lts ots h4 HT HK HP HL
      go_wp2_with (go_at_call 67; refine (HH.out _ (by go_grown)).mono ?_; rintro e w3 ⟨g, rfl, hE3, hb3⟩)
      refine ⟨⟨j + 1, n', some ⟨g, 0, none⟩, d, half 1 d s x, hlt, by simp, ?_, ⟨HG.out.1, HG.out.2.1, HG.out.2.2.1⟩, hE3, ?_⟩, by simp [intOf]; omega⟩
      · rw [HG.out.2.2.1, ← HG.out.2.2.2]
      · exact (HD.out.alloc HD.out.size _).trans (hb3.mono (by have := HD.out.size; simp; omega))
    · obtain rfl : j = p.length := by omega
      have e0 : s = lasts t p := by have := HS.out.1; rwa [List.take_of_length_le (Nat.le_refl _)] at this
      have e1 : s.length = 2 ^ m := by rw [HS.out.2.2, HS.out.2.1]; congr 1; omega
      rw [e1]
      subst e0
      clear hD HS HT HL HP
      go_wp2
      go_ret
      exact ⟨a', cap', rfl, HE.out, HD.out⟩
end Go.Proofs.Ytcnbaoijgfaljaa
