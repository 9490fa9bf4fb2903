/- The walk of WeaveCuts over the seat's translation. -/
import Derived.Test.YtflkchhdgiojgaaWvK
import Derived.Test.YtflkchhdgiojgaaSmA
namespace Go.Proofs.Ytflkchhdgiojgaa
open Go.RowKit

set_option maxHeartbeats 1000000 in
theorem wc_long (wide : Int) (a : Option Addr) (n cap : Nat) (hn : 100 < n) (W : World) :
    Calls Try.prog 3 #[.slice a n cap, .int .i64 wide] W fun e w' => e = .returned (.bool true) ∧ Below W.heap.size W w' := by
  have h1 : (100 : Int) < (n : Int) := by omega
  have AW := awake9
  go_enter Try.func3, Try.ntmps3
  go_wp2_with fail
  refine (AW.go _).mono ?_
  rintro e w1 ⟨rfl, hb1⟩
  go_wp2
  go_ret
  exact ⟨rfl, hb1⟩
set_option maxHeartbeats 1000000 in
theorem wc_arg (wide : Int) (hw : wide < 1) (a : Option Addr) (n cap : Nat) (hn : n ≤ 100) (W : World) :
    Calls Try.prog 3 #[.slice a n cap, .int .i64 wide] W fun e w' => e = .returned (.bool true) ∧ Below W.heap.size W w' := by
  have h1 : ¬ (100 : Int) < (n : Int) := by omega
  have AW := awake9
  have HC := wcut_arg wide hw (.slice a n cap)
  go_enter Try.func3, Try.ntmps3
  go_wp2_with (first | (go_at_call 8; refine (HC.go _).mono ?_; rintro e w1 ⟨rfl, hb1⟩) | (go_at_call 7; refine (AW.go _).mono ?_; rintro e w2 ⟨rfl, hb2⟩))
  go_ret
  exact ⟨rfl, hb1.trans (hb2.mono hb1.size)⟩
set_option maxHeartbeats 1000000 in
theorem wc_size (wide : Nat) (hw : 0 < wide) (a : Option Addr) (n cap : Nat) (hn : n ≤ 100) (hm : ¬ n % wide = 0) (W : World) :
    Calls Try.prog 3 #[.slice a n cap, .int .i64 (wide : Int)] W fun e w' => e = .returned (.bool true) ∧ Below W.heap.size W w' := by
  have h1 : ¬ (100 : Int) < (n : Int) := by omega
  have AW := awake9
  have HC := wcut_size wide n a cap hw hm
  have h2 : ¬ (wide : Int) < 1 := by omega
  have h3 : ¬ (wide : Int) = 0 := by omega
  obtain ⟨m, hmm⟩ : ∃ m : Nat, n % wide = m := ⟨_, rfl⟩
  have h4 : (n : Int).tmod (wide : Int) = (m : Int) := by rw [Int.tmod_eq_emod_of_nonneg (by omega), ← hmm]; simp
  have h5 : ¬ (m : Int) = 0 := by omega
  clear hm hmm
  go_enter Try.func3, Try.ntmps3
  go_wp2_with (first | (go_at_call 8; refine (HC.go _).mono ?_; rintro e w1 ⟨rfl, hb1⟩) | (go_at_call 7; refine (AW.go _).mono ?_; rintro e w2 ⟨rfl, hb2⟩))
  go_ret
  exact ⟨rfl, hb1.trans (hb2.mono hb1.size)⟩
set_option maxHeartbeats 2000000 in
theorem wc_ok (wide q : Nat) (hw : 0 < wide) (a : Option Addr) (cap : Nat) (es : List (Nat × Nat)) (hq : es.length = q * wide) (hn : es.length ≤ 100) (ha : a = none → es.length = 0 ∧ cap = 0) (W : World) (hr : ERow W a es) :
    Calls Try.prog 3 #[.slice a es.length cap, .int .i64 (wide : Int)] W fun e w' => e = .returned (.bool true) ∧ Below W.heap.size W w' := by
  have h1 : ¬ (100 : Int) < (es.length : Int) := by omega
  have AW : Hid (Ret 7 #[] (.bool true)) := awake9
  have HC := wcut_ok wide q a cap es hw hq (by omega) ha W hr
  have h2 : ¬ (wide : Int) < 1 := by omega
  have h3 : ¬ (wide : Int) = 0 := by omega
  have h4 : (es.length : Int).tmod (wide : Int) = 0 := by
    rw [Int.tmod_eq_emod_of_nonneg (by omega), hq, Int.natCast_mul]; exact Int.mul_emod_left _ _
  have h5 : (es.length : Int).tdiv (wide : Int) = (q : Int) := by
    rw [Int.tdiv_eq_ediv_of_nonneg (by omega), hq, Int.natCast_mul]; exact Int.mul_ediv_cancel _ (by omega)
  have hqq : q ≤ 100 := by have := Nat.le_mul_of_pos_right q hw; omega
  have h6 : wrap64 (q : Int) = q := by unfold wrap64; omega
  have HR : Hid (ERow W a es) := hr
  have HQ : Hid (es.length = q * wide) := hq
  clear hr hq ha
  go_enter Try.func3, Try.ntmps3
  go_wp2_with (go_at_call 8; refine HC.mono ?_; rintro e w1 ⟨v, b, rfl, hO, hE, hb1⟩; obtain ⟨a', cap', rfl, hP⟩ := own_pcs hO; have HP : Hid (∀ i, i < q → ∃ g, a' = some ⟨g, 0, none⟩ ∧ W.heap.size ≤ g ∧ g < w1.heap.size ∧ w1.cell? ⟨g, i, none⟩ = some (.slice (some ⟨b, 0 + i * wide * 2, none⟩) wide wide)) := hP; have HE : Hid (ERow w1 (some ⟨b, 0, none⟩) es) := hE; have HB1 : Hid (Below W.heap.size W w1) := hb1; clear hP hE hb1 hO)
  refine (join_any a' b wide q cap' es.length es rfl HQ.out hw (by omega) w1 HE.out (fun i hi => by obtain ⟨g, h1, _, h2, h3⟩ := HP.out i hi; exact ⟨g, h1, h2, h3⟩)).mono ?_
  rintro e w2 ⟨aj, capj, rfl, hEj, hb2⟩
  have HEj : Hid (ERow w2 aj es) := hEj
  have HB2 : Hid (Below w1.heap.size w1 w2) := hb2
  clear hEj hb2 HC
  go_wp2_with fail
  refine (ref_row a cap es (by omega) w2 ((HR.out.below HB1.out).below HB2.out)).mono ?_
  rintro e w3 ⟨ar, capr, rfl, hEr, hb3⟩
  have HEr : Hid (ERow w3 ar es) := hEr
  have HB3 : Hid (Below w2.heap.size w2 w3) := hb3
  clear hEr hb3
  go_wp2_with fail
  refine (same_rows aj ar capj capr es (by omega) w3 (HEj.out.below HB3.out) HEr.out).mono ?_
  rintro e w4 ⟨rfl, hb4⟩
  have HB4 : Hid (Below w1.heap.size w1 w4) := (HB2.out.trans (HB3.out.mono HB2.out.size)).trans (hb4.mono (Nat.le_trans HB2.out.size HB3.out.size))
  clear hb4 HB3 HB2 HEr HEj
  go_wp2_with fail
  go_loopw [7] (fun u wr => ∃ j : Nat, j ≤ q ∧ u = .int .i64 j ∧ Below w1.heap.size w1 wr) (fun u _ => q - (intOf u).toNat)
  case atStart => exact ⟨0, Nat.zero_le _, rfl, HB4.out⟩
  case round =>
    obtain ⟨j, hj, rfl, hD⟩ := hrel
    have HD : Hid (Below w1.heap.size w1 wr) := hD
    clear hD HB4
    by_cases hlt : j < q
    · obtain ⟨g, rfl, _, hg, cg⟩ := HP.out j hlt
      have dg := keepc HD.out cg
      clear cg
      go_wp2
      exact ⟨⟨j + 1, hlt, by simp, HD.out⟩, by simp [intOf]; omega⟩
    · obtain rfl : j = q := by omega
      go_wp2_with (go_at_call 7; refine (AW.out.go _).mono ?_; rintro e w5 ⟨rfl, hb5⟩)
      go_ret
      have h7 := HB1.out.trans (HD.out.mono HB1.out.size)
      exact ⟨rfl, h7.trans (hb5.mono h7.size)⟩
theorem wc_any (wide : Int) (a : Option Addr) (cap : Nat) (es : List (Nat × Nat)) (ha : a = none → es.length = 0 ∧ cap = 0) (W : World) (hr : ERow W a es) :
    Calls Try.prog 3 #[.slice a es.length cap, .int .i64 wide] W fun e w' => e = .returned (.bool true) ∧ Below W.heap.size W w' := by
  by_cases hn : 100 < es.length
  · exact wc_long wide a es.length cap hn W
  have hn : es.length ≤ 100 := by omega
  by_cases hw : wide < 1
  · exact wc_arg wide hw a es.length cap hn W
  obtain ⟨k, rfl⟩ : ∃ k : Nat, wide = (k : Int) := ⟨wide.toNat, by omega⟩
  have hk : 0 < k := by omega
  by_cases hm : es.length % k = 0
  · exact wc_ok k (es.length / k) hk a cap es (Nat.div_mul_cancel (Nat.dvd_of_mod_eq_zero hm)).symm hn ha W hr
  · exact wc_size k hk a es.length cap hn hm W
end Go.Proofs.Ytflkchhdgiojgaa
