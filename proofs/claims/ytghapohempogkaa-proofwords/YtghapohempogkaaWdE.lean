/- The walk of ProofWords over the seat's translation. -/
import Derived.Test.YtghapohempogkaaWdC
import Derived.Test.YtghapohempogkaaWdD
import Derived.Test.YtghapohempogkaaPaD
namespace Go.Proofs.Ytghapohempogkaa
open Go.RowKit
namespace Wd

theorem wordsS_small {cs : List (List Nat)} (h1 : cs.length ≤ 20) (h2 : ∀ c ∈ cs, c.length ≤ 20) : (wordsS cs).size ≤ 1048576 := by
  have h3 := colsL_len cs fun c hc => by have := h2 c hc; omega
  have h4 := numS_size (cs.length : Int)
  have h5 : (numS (cs.length : Int)).data.toList.length = (numS (cs.length : Int)).size := by rw [Array.length_toList]; rfl
  have e : (wordsS cs).size = ((numS cs.length).data.toList ++ colsL cs).length := by
    unfold wordsS
    show Array.size _ = _
    rw [List.size_toArray]
  rw [e, List.length_append, h5]
  omega
set_option maxHeartbeats 8000000 in
set_option maxRecDepth 100000 in
theorem pw_any (a : Option Addr) (cap n : Nat) (cs : List (List Nat)) (t : ByteArray) (hl : cs.length = n) (hc : ∀ c ∈ cs, ltC c) (W : World) (hr : UCols W a cs) :
    Calls Try.prog 3 #[.slice a n cap, .string t] W fun e w' => e = .returned (.bool true) ∧ Below W.heap.size W w' := by
  have AW := hidW Pa.awake29
  by_cases h20 : (20 : Int) < (n : Int)
  · clear hl hr
    go_enter Try.func3, Try.ntmps3
    go_wp2_with (go_at_call 4; refine (AW.out.go _).mono ?_; rintro e w1 ⟨rfl, hb1⟩)
    go_ret
    exact ⟨rfl, hb1⟩
  by_cases h2000 : (2000 : Int) < (t.size : Int)
  · clear hl hr
    go_enter Try.func3, Try.ntmps3
    go_wp2_with (go_at_call 4; refine (AW.out.go _).mono ?_; rintro e w1 ⟨rfl, hb1⟩)
    go_ret
    exact ⟨rfl, hb1⟩
  have HR := hidW (And.intro hr (And.intro hl hc))
  have HT := hidW (show t.size ≤ 1048576 by omega)
  clear hr hl hc
  go_enter Try.func3, Try.ntmps3
  go_wp2_with fail
  go_loopw [5] (fun u wr => ∃ k : Nat, k ≤ n ∧ u = .int .i64 k ∧ Hid (∀ i, i < k → (cs.getD i []).length ≤ 20) ∧ Hid (Below W.heap.size W wr)) (fun u _ => n - (intOf u).toNat)
  case atStart => exact ⟨0, Nat.zero_le _, rfl, (fun i hi => by omega), Below.refl _ _⟩
  case round =>
    obtain ⟨k, hk, rfl, HI, HK⟩ := hrel
    by_cases hlt : k < n
    · have k1 : (k : Int) < (n : Int) := by omega
      have k0 : (0 : Int) ≤ (k : Int) := by omega
      obtain ⟨b0, o0, a', cap', rfl, hb0, d0, _⟩ := HR.out.1.cells k (by rw [HR.out.2.1]; exact hlt)
      have D0 := keepc HK.out d0
      clear d0
      obtain ⟨m, hm⟩ : ∃ m, m = (cs.getD k []).length := ⟨_, rfl⟩
      rw [← hm] at D0
      have HM := hidW hm
      clear hm
      by_cases hm20 : (20 : Int) < (m : Int)
      · go_wp2_with (go_at_call 4; refine (AW.out.go _).mono ?_; rintro e w1 ⟨rfl, hb1⟩)
        go_ret
        exact ⟨rfl, HK.out.trans (hb1.mono HK.out.size)⟩
      · go_wp2
        refine ⟨⟨k + 1, hlt, by simp, fun i hi => ?_, HK⟩, by simp [intOf]; omega⟩
        by_cases e : i = k
        · subst e
          rw [← HM.out]
          omega
        · exact HI.out i (by omega)
    · obtain rfl : k = n := by omega
      have h20' : ∀ c ∈ cs, c.length ≤ 20 := fun c h => by
        obtain ⟨i, hi, rfl⟩ := List.mem_iff_getElem.1 h
        have := HI.out i (by rw [← HR.out.2.1]; exact hi)
        simpa [List.getD, hi] using this
      have hn20 : cs.length ≤ 20 := by rw [HR.out.2.1]; omega
      have hok : okC cs := ⟨by omega, fun c h => ⟨by have := h20' c h; omega, HR.out.2.2 c h⟩⟩
      have HW : Hid (∀ w, Below W.heap.size W w → Calls Try.prog 5 #[.slice a k cap] w fun e w' => e = .returned (.tuple #[.string (wordsS cs), .int .i64 0]) ∧ Below w.heap.size w w') := fun w hb => wwords_any a cap k cs HR.out.2.1 (fun c h => ⟨by have := h20' c h; omega, HR.out.2.2 c h⟩) (by omega) w (HR.out.1.below hb)
      have HRd : Hid (∀ w, Calls Try.prog 6 #[.string (wordsS cs)] w fun r w' => ∃ a cap, r = .returned (.tuple #[.slice a k cap, .int .i64 0]) ∧ UCols w' a cs ∧ Below w.heap.size w w') := fun w => by
        have := readw_yes (wordsS cs) (wordsS_small hn20 h20') (words_ok hok).1 w
        rw [(words_ok hok).2, HR.out.2.1] at this
        exact this
      have HD : Hid (∀ w, Below W.heap.size W w → Calls Try.prog 7 #[.slice a k cap] w fun e w' => e = .returned (.string (wordsS cs)) ∧ Below w.heap.size w w') := fun w hb => rwords_any a cap k cs HR.out.2.1 hok w (HR.out.1.below hb)
      have HC : Hid (∀ w a' cap', Below W.heap.size W w → UCols w a' cs → Calls Try.prog 8 #[.slice a' k cap', .slice a k cap] w fun e w' => e = .returned (.bool true) ∧ Below w.heap.size w w') := fun w a' cap' hb h => cols_alike a' a cap' cap k cs HR.out.2.1 hok w h (HR.out.1.below hb)
      clear h20' hn20 hok HI
      rcases ho : okW t with _ | _
      · have HN : Hid (∀ w, Calls Try.prog 6 #[.string t] w fun r w' => r = .returned (.tuple #[.slice none 0 0, .int .i64 3]) ∧ Below w.heap.size w w') := fun w => readw_no t HT.out ho w
        clear ho HR HT
        generalize wordsS cs = B at *
        go_wp2_with (first
          | (go_at_call 5; refine (HW.out _ HK.out).mono ?_; rintro e w1 ⟨rfl, hb1⟩; have K1 := hidW (HK.out.trans (hb1.mono HK.out.size)); clear hb1 HK)
          | (go_at_call 7; refine (HD.out _ K2.out.2).mono ?_; rintro e w3 ⟨rfl, hb3⟩; have K3 := hidW (And.intro (K2.out.1.below hb3) (K2.out.2.trans (hb3.mono K2.out.2.size))); clear hb3 K2)
          | (go_at_call 8; refine (HC.out _ _ _ K3.out.2 K3.out.1).mono ?_; rintro e w4 ⟨rfl, hb4⟩; have K4 := hidW (K3.out.2.trans (hb4.mono K3.out.2.size)); clear hb4 K3)
          | (go_at_call 4; refine (AW.out.go _).mono ?_; rintro e w6 ⟨rfl, hb6⟩; have K6 := hidW (K5.out.trans (hb6.mono K5.out.size)); clear hb6)
          | (go_at_call_of 6 (#[.string t] : Array Value); refine (HN.out _).mono ?_; rintro r w5 ⟨rfl, hb5⟩; have K5 := hidW (K4.out.trans (hb5.mono K4.out.size)); clear hb5)
          | (go_at_call_of 6 (#[.string B] : Array Value); refine (HRd.out _).mono ?_; rintro r w2 ⟨a', cap', rfl, hu, hb2⟩; have K2 := hidW (And.intro hu (K1.out.trans (hb2.mono K1.out.size))); clear hb2 hu K1))
        go_ret
        exact ⟨by first | rfl | simp, K6.out⟩
      · have HB := words_back ho
        have HN : Hid (∀ w, Calls Try.prog 6 #[.string t] w fun r w' => ∃ a cap, r = .returned (.tuple #[.slice a (colsOf t).length cap, .int .i64 0]) ∧ UCols w' a (colsOf t) ∧ Below w.heap.size w w') := fun w => readw_yes t HT.out ho w
        have HDt : Hid (∀ w a' cap', UCols w a' (colsOf t) → Calls Try.prog 7 #[.slice a' (colsOf t).length cap'] w fun e w' => e = .returned (.string t) ∧ Below w.heap.size w w') := fun w a' cap' h => by
          have := rwords_any a' cap' _ (colsOf t) rfl HB.1 w h
          rw [HB.2] at this
          exact this
        clear ho HR HT HB
        generalize wordsS cs = B at *
        generalize colsOf t = ys at *
        go_wp2_with (first
          | (go_at_call 5; refine (HW.out _ HK.out).mono ?_; rintro e w1 ⟨rfl, hb1⟩; have K1 := hidW (HK.out.trans (hb1.mono HK.out.size)); clear hb1 HK)
          | (go_at_call 7; refine (HDt.out _ _ _ K6.out.1).mono ?_; rintro e w7 ⟨rfl, hb7⟩; have K7 := hidW (K6.out.2.trans (hb7.mono K6.out.2.size)); clear hb7)
          | (go_at_call 7; refine (HD.out _ K2.out.2).mono ?_; rintro e w3 ⟨rfl, hb3⟩; have K3 := hidW (And.intro (K2.out.1.below hb3) (K2.out.2.trans (hb3.mono K2.out.2.size))); clear hb3 K2)
          | (go_at_call 8; refine (HC.out _ _ _ K3.out.2 K3.out.1).mono ?_; rintro e w4 ⟨rfl, hb4⟩; have K4 := hidW (K3.out.2.trans (hb4.mono K3.out.2.size)); clear hb4 K3)
          | (go_at_call 4; refine (AW.out.go _).mono ?_; rintro e w6 ⟨rfl, hb6⟩; have K6 := hidW (And.intro (K5.out.1.below hb6) (K5.out.2.trans (hb6.mono K5.out.2.size))); clear hb6)
          | (go_at_call_of 6 (#[.string t] : Array Value); refine (HN.out _).mono ?_; rintro r w5 ⟨a5, cap5, rfl, hu5, hb5⟩; have K5 := hidW (And.intro hu5 (K4.out.trans (hb5.mono K4.out.size))); clear hb5 hu5)
          | (go_at_call_of 6 (#[.string B] : Array Value); refine (HRd.out _).mono ?_; rintro r w2 ⟨a', cap', rfl, hu, hb2⟩; have K2 := hidW (And.intro hu (K1.out.trans (hb2.mono K1.out.size))); clear hb2 hu K1))
        go_ret
        exact ⟨by first | rfl | simp, K7.out⟩
end Wd
end Go.Proofs.Ytghapohempogkaa
