/- Contracts of the document's Words and of steeplelaw29's columns over the seat's translation. -/
import Derived.Test.YtghapohempogkaaWdB
import Derived.Test.YtghapohempogkaaOeC
import Derived.Test.YtghapohempogkaaPRefA
import Derived.BigRegion
namespace Go.Proofs.Ytghapohempogkaa
open Go.RowKit
namespace Wd

theorem word_mem {c : List Nat} {j : Nat} (h : j < c.length) : c.getD j 0 ∈ c := by simp [List.getD, h]
set_option maxHeartbeats 4000000 in
set_option maxRecDepth 100000 in
theorem rwords_any (a : Option Addr) (cap n : Nat) (cs : List (List Nat)) (hl : cs.length = n) (hc : okC cs) (W : World) (hr : UCols W a cs) :
    Calls Try.prog 7 #[.slice a n cap] W fun e w' => e = .returned (.string (wordsS cs)) ∧ Below W.heap.size W w' := by
  have HR := hidW (And.intro hr (And.intro hl hc))
  have hn : n ≤ 4096 := by rw [← hl]; exact hc.1
  have HZ : Hid (∀ k j, (prej cs k j).size ≤ 1000000000) := fun k j => prej_size cs k j (by omega) fun c h => by have := (hc.2 c h).1; omega
  have H0 : Hid (numS n = pre cs 0) := by show _ = _; rw [pre_zero, hl]
  clear hr hl hc
  go_enter Try.func7, Try.ntmps7
  go_wp2_with (go_at_call 19; refine (rnum_any _ _).mono ?_; rintro e w1 ⟨rfl, hb1⟩; have K1 := hidW hb1; clear hb1)
  go_loopw [3, 4] (fun t u wr => ∃ k : Nat, k ≤ n ∧ u = .int .i64 k ∧ Hid (t = .string (pre cs k)) ∧ Hid (Below W.heap.size W wr)) (fun _ u _ => n - (intOf u).toNat)
  case atStart => exact ⟨0, Nat.zero_le _, rfl, by rw [H0.out]; rfl, K1⟩
  case round =>
    obtain ⟨k, hk, rfl, HT, HK⟩ := hrel
    clear K1 H0
    by_cases hlt : k < n
    · have k1 : (k : Int) < (n : Int) := by omega
      have k0 : (0 : Int) ≤ (k : Int) := by omega
      have hk2 : k < cs.length := by rw [HR.out.2.1]; exact hlt
      obtain ⟨b0, o0, a', cap', rfl, hb0, d0, hu⟩ := HR.out.1.cells k hk2
      have HU := hidW hu
      have HM := hidW (HR.out.2.2.2 _ (mem_at hk2))
      have HD := hidW (fun w (hw : Below W.heap.size W w) => (keepc hw d0 : w.cell? ⟨b0, o0 + k, none⟩ = some (.slice a' (cs.getD k []).length cap')))
      have D0 := HD.out _ HK.out
      obtain ⟨m, hm⟩ : ∃ m, m = (cs.getD k []).length := ⟨_, rfl⟩
      rw [← hm] at D0 HD
      have HMM := hidW hm
      have hm4 : m ≤ 4096 := by rw [hm]; exact HM.out.1
      have P0 : Hid (prej cs k 0 = pre cs k ++ numS m) := by show _ = _; rw [hm]; exact prej_zero cs k
      have s1 : ¬ 9223372036854775807 < (pre cs k).size + (numS m).size := by
        have h1 := HZ.out k 0
        rw [P0.out, ByteArray.size_append] at h1
        omega
      clear d0 hu hm
      obtain ⟨A, hA⟩ : ∃ A, A = pre cs k := ⟨_, rfl⟩
      have hT := HT.out
      rw [← hA] at hT s1 P0
      subst hT
      clear HT hA
      go_wp2_with (go_at_call 19; refine (rnum_any _ _).mono ?_; rintro e w3 ⟨rfl, hb3⟩; have K3 := hidW (HK.out.trans (hb3.mono HK.out.size)); clear hb3)
      rw [← P0.out]
      clear HK D0 s1 P0
      go_loopw [3, 5] (fun t u wr => ∃ j : Nat, j ≤ m ∧ u = .int .i64 j ∧ Hid (t = .string (prej cs k j)) ∧ Hid (Below W.heap.size W wr)) (fun _ u _ => m - (intOf u).toNat)
      case atStart => exact ⟨0, Nat.zero_le _, rfl, rfl, K3⟩
      case round =>
        obtain ⟨j, hj, rfl, HT, HK⟩ := hrel
        clear K3
        have D0 := HD.out _ HK.out
        by_cases hjl : j < m
        · have j1 : (j : Int) < (m : Int) := by omega
          have j0 : (0 : Int) ≤ (j : Int) := by omega
          have hj2 : j < (cs.getD k []).length := by rw [← HMM.out]; exact hjl
          obtain ⟨b2, o2, rfl, hb2, e0⟩ := HU.out.cells j hj2
          have E0 := keepc HK.out e0
          have P1 := hidW (prej_succ cs k j hj2)
          have hx : (cs.getD k []).getD j 0 < 2 ^ 64 := HM.out.2 _ (word_mem hj2)
          have s1 := HZ.out k (j + 1)
          rw [P1.out, ByteArray.size_append] at s1
          clear e0
          obtain ⟨x, hX⟩ : ∃ x, x = (cs.getD k []).getD j 0 := ⟨_, rfl⟩
          rw [← hX] at E0 P1 hx s1
          have HB := hidW (fun w => rbytes 6 0 x (by decide) hx w)
          obtain ⟨A, hA⟩ : ∃ A, A = prej cs k j := ⟨_, rfl⟩
          have hT := HT.out
          rw [← hA] at hT s1 P1
          subst hT
          obtain ⟨C, hC⟩ : ∃ C, C = elemS 6 0 (x : Int) := ⟨_, rfl⟩
          rw [← hC] at s1 P1
          have HB2 : Hid (∀ w, Calls Try.prog 20 #[.int .i64 6, .agg #[.int .u64 0, .int .u64 (x : Int)]] w fun e w' => e = .returned (.string C) ∧ Below w.heap.size w w') := by rw [hC]; exact HB.out
          have s2 : ¬ 9223372036854775807 < A.size + C.size := by omega
          clear HT hA hX hC HB s1 hx
          go_wp2_with (go_at_call 20; refine (HB2.out _).mono ?_; rintro e w3 ⟨rfl, hb3⟩; have K3 := hidW (HK.out.trans (hb3.mono HK.out.size)); clear hb3)
          exact ⟨⟨j + 1, hjl, by simp, by rw [P1.out]; rfl, K3⟩, by simp [intOf]; omega⟩
        · obtain rfl : j = m := by omega
          have P2 : Hid (prej cs k j = pre cs (k + 1)) := by
            show _ = _
            rw [HMM.out]
            exact pre_succ cs HR.out.2.2 k hk2
          have hT := HT.out
          rw [P2.out] at hT
          subst hT
          clear HT
          go_wp2
          exact ⟨⟨k + 1, hlt, by simp, rfl, HK⟩, by simp [intOf]; omega⟩
    · obtain rfl : k = n := by omega
      have P0 : Hid (pre cs k = wordsS cs) := by show _ = _; rw [← HR.out.2.1]; exact pre_all cs
      have hT := HT.out
      rw [P0.out] at hT
      subst hT
      go_wp2
      go_ret
      exact ⟨rfl, HK.out⟩
set_option maxHeartbeats 4000000 in
set_option maxRecDepth 100000 in
theorem cols_alike (a a' : Option Addr) (cap cap' n : Nat) (cs : List (List Nat)) (hl : cs.length = n) (hc : okC cs) (W : World) (hr : UCols W a cs) (hr' : UCols W a' cs) :
    Calls Try.prog 8 #[.slice a n cap, .slice a' n cap'] W fun e w' => e = .returned (.bool true) ∧ Below W.heap.size W w' := by
  have HR := hidW (And.intro hr (And.intro hr' (And.intro hl hc)))
  have hn : n ≤ 4096 := by rw [← hl]; exact hc.1
  clear hr hr' hl hc
  go_enter Try.func8, Try.ntmps8
  go_wp2
  go_loopw [5] (fun u wr => ∃ k : Nat, k ≤ n ∧ u = .int .i64 k ∧ Hid (Below W.heap.size W wr)) (fun u _ => n - (intOf u).toNat)
  case atStart => exact ⟨0, Nat.zero_le _, rfl, Below.refl _ _⟩
  case round =>
    obtain ⟨k, hk, rfl, HK⟩ := hrel
    by_cases hlt : k < n
    · have k1 : (k : Int) < (n : Int) := by omega
      have k0 : (0 : Int) ≤ (k : Int) := by omega
      have hk2 : k < cs.length := by rw [HR.out.2.2.1]; exact hlt
      obtain ⟨b1, o1, a1, cap1, rfl, hb1, d1, hu1⟩ := HR.out.1.cells k hk2
      obtain ⟨b2, o2, a2, cap2, rfl, hb2, d2, hu2⟩ := HR.out.2.1.cells k hk2
      have HD := hidW (fun w (hw : Below W.heap.size W w) => And.intro (keepc hw d1 : w.cell? ⟨b1, o1 + k, none⟩ = some (.slice a1 (cs.getD k []).length cap1)) (keepc hw d2 : w.cell? ⟨b2, o2 + k, none⟩ = some (.slice a2 (cs.getD k []).length cap2)))
      have HU := hidW (And.intro hu1 hu2)
      obtain ⟨m, hm⟩ : ∃ m, m = (cs.getD k []).length := ⟨_, rfl⟩
      rw [← hm] at HD
      have HMM := hidW hm
      have hm4 : m ≤ 4096 := by rw [hm]; exact (HR.out.2.2.2.2 _ (mem_at hk2)).1
      clear d1 d2 hu1 hu2 hm
      obtain ⟨D1, D2⟩ := HD.out _ HK.out
      go_wp2
      go_region
      go_wp2
      clear D1 D2
      have HK1 : Hid (Below W.heap.size W wr.drew) := HK.out.drew
      clear HK
      generalize wr.drew = wd at *
      go_loopw [6] (fun u wr => ∃ j : Nat, j ≤ m ∧ u = .int .i64 j ∧ Hid (Below W.heap.size W wr)) (fun u _ => m - (intOf u).toNat)
      case atStart => exact ⟨0, Nat.zero_le _, rfl, HK1⟩
      case round =>
        obtain ⟨j, hj, rfl, HK⟩ := hrel
        clear HK1
        obtain ⟨D1, D2⟩ := HD.out _ HK.out
        by_cases hjl : j < m
        · have j1 : (j : Int) < (m : Int) := by omega
          have j0 : (0 : Int) ≤ (j : Int) := by omega
          have hj2 : j < (cs.getD k []).length := by rw [← HMM.out]; exact hjl
          obtain ⟨b3, o3, rfl, hb3, e1⟩ := HU.out.1.cells j hj2
          obtain ⟨b4, o4, rfl, hb4, e2⟩ := HU.out.2.cells j hj2
          have E1 := keepc HK.out e1
          have E2 := keepc HK.out e2
          clear e1 e2
          generalize (cs.getD k []).getD j 0 = x at *
          go_wp2
          go_region
          go_wp2
          exact ⟨⟨j + 1, hjl, by simp, HK.out.drew⟩, by simp [intOf]; omega⟩
        · obtain rfl : j = m := by omega
          go_wp2
          exact ⟨⟨k + 1, hlt, by simp, HK⟩, by simp [intOf]; omega⟩
    · obtain rfl : k = n := by omega
      go_wp2
      go_ret
      exact ⟨rfl, HK.out⟩
end Wd
end Go.Proofs.Ytghapohempogkaa
