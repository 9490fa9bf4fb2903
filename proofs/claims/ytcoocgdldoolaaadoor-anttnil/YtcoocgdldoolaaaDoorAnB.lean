/- The walk of AnttNil over the seat's translation. -/
import Derived.Test.YtcoocgdldoolaaaDoorAnA
namespace Go.Proofs.YtcoocgdldoolaaaDoor
open Go.RowKit

theorem hinda_nil (v : Value) (h l : Int) : Ret 8 #[.pointer none, v, .agg #[.int .u64 h, .int .u64 l]] (.int .i64 1) := by
  intro W
  go_enter Tryd.func8, Tryd.ntmps8
  go_wp2
  go_ret
  exact ⟨rfl, by first | exact Below.refl _ _ | go_grown⟩
set_option maxHeartbeats 1000000 in
theorem fwd_nil (v : Value) (h l : Int) : Ret 4 #[.pointer none, v, .agg #[.int .u64 h, .int .u64 l]] (.tuple #[.slice none 0 0, .int .i64 1]) := by
  intro W
  have H1 := hinda_nil v h l
  go_enter Tryd.func4, Tryd.ntmps4
  go_wp2_with (go_at_call 8; refine (H1.go _).mono ?_; rintro e w1 ⟨rfl, hb1⟩)
  refine bodyPost_ret (v := .tuple #[.slice none 0 0, .int .i64 1]) (by simp [results, Tryd.results4, go_sem]) rfl ⟨rfl, ?_⟩
  exact (((Below.refl _ _).alloc (Nat.le_refl _) _).alloc (by simp) _).trans (hb1.mono (by simp <;> omega))
set_option maxHeartbeats 1000000 in
theorem back_nil (v : Value) (h l : Int) : Ret 5 #[.pointer none, v, .agg #[.int .u64 h, .int .u64 l]] (.tuple #[.slice none 0 0, .int .i64 1]) := by
  intro W
  have H1 := hinda_nil v h l
  go_enter Tryd.func5, Tryd.ntmps5
  go_wp2_with (go_at_call 8; refine (H1.go _).mono ?_; rintro e w1 ⟨rfl, hb1⟩)
  refine bodyPost_ret (v := .tuple #[.slice none 0 0, .int .i64 1]) (by simp [results, Tryd.results5, go_sem]) rfl ⟨rfl, ?_⟩
  exact (((Below.refl _ _).alloc (Nat.le_refl _) _).alloc (by simp) _).trans (hb1.mono (by simp <;> omega))
theorem pow20 (n : Nat) (h : n ≤ 20) : 2 ^ n ≤ 1048576 := Nat.pow_le_pow_right (by decide) h
set_option maxHeartbeats 400000 in
theorem steps_ok (n q : Nat) (h1 : 1 ≤ n) (h2 : n ≤ 20) (hq : q = n * 2 ^ (n - 1)) : Ret 7 #[.int .i64 (n : Int)] (.int .i64 (q : Int)) := by
  intro W
  have a1 : ¬ (n : Int) < 1 := by omega
  have a2 : ¬ (20 : Int) < (n : Int) := by omega
  obtain ⟨m, rfl⟩ : ∃ m, n = m + 1 := ⟨n - 1, by omega⟩
  have a3 : IntKind.i64.wrap (((m + 1 : Nat) : Int) - 1) = (m : Int) := by rw [IntKind.wrap_i64]; omega
  have hb : q ≤ 20971520 := by
    rw [hq, Nat.add_sub_cancel]
    have := Nat.mul_le_mul h2 (pow20 m (by omega))
    omega
  have a4 : IntKind.i64.wrap (((m + 1 : Nat) : Int) * 2 ^ m) = (q : Int) := by
    rw [show ((m + 1 : Nat) : Int) * 2 ^ m = (q : Int) by rw [hq, Nat.add_sub_cancel]; simp, IntKind.wrap_i64]; omega
  have a5 : (m : Int) < 64 := by omega
  have a6 : (0 : Int) ≤ (m : Int) := by omega
  clear hq
  generalize m + 1 = k at *
  go_enter Tryd.func7, Tryd.ntmps7
  go_wp2
  go_ret
  exact ⟨rfl, by first | exact Below.refl _ _ | go_grown⟩
set_option maxHeartbeats 400000 in
theorem steps_no (n : Int) (h : ¬ (1 ≤ n ∧ n ≤ 20)) : Ret 7 #[.int .i64 n] (.int .i64 0) := by
  intro W
  by_cases h1 : n < 1
  · clear h
    go_enter Tryd.func7, Tryd.ntmps7
    go_wp2
    go_ret
    exact ⟨rfl, by first | exact Below.refl _ _ | go_grown⟩
  · have h2 : 20 < n := by omega
    clear h
    go_enter Tryd.func7, Tryd.ntmps7
    go_wp2
    go_ret
    exact ⟨rfl, by first | exact Below.refl _ _ | go_grown⟩
set_option maxHeartbeats 2000000 in
theorem an_no (a : Option Addr) (len cap : Nat) (h l : Nat) (n : Int) (hn : ¬ (1 ≤ n ∧ n ≤ 20)) (W : World) (hT : Tab W) :
    Calls Tryd.prog 3 #[.slice a len cap, .agg #[.int .u64 (h : Int), .int .u64 (l : Int)], .int .i64 n] W fun e w' => e = .returned (.bool true) ∧ Below W.heap.size W w' := by
  have HT : Hid (Tab W) := hT
  have H1 := fwd_nil (.slice a len cap) h l
  have H2 := back_nil (.slice a len cap) h l
  have H3 := steps_no n hn
  clear hT
  by_cases h1 : 1 ≤ n
  · have h2 : ¬ n ≤ 20 := fun h2 => hn ⟨h1, h2⟩
    clear hn
    go_enter Tryd.func3, Tryd.ntmps3
    go_wp2_with (first | (go_at_call 4; refine (H1.go _).mono ?_; rintro e w1 ⟨rfl, hb1⟩; have D1 : Below W.heap.size W w1 := ((Below.refl _ _).alloc (Nat.le_refl _) _).trans (hb1.mono (by simp)); have e1 : w1.cell? ⟨W.heap.size, 0, none⟩ = some (.int .u64 (h : Int)) := keepc hb1 (by simp [go_sem]); have e0 : w1.cell? ⟨W.heap.size, 1, none⟩ = some (.int .u64 (l : Int)) := keepc hb1 (by simp [go_sem])) | (go_at_call 5; refine (H2.go _).mono ?_; rintro e w2 ⟨rfl, hb2⟩; have D2 : Below W.heap.size W w2 := D1.trans (hb2.mono D1.size)) | (go_at_call 6; refine (awake7 _ (HT.out.below D2)).mono ?_; rintro e w3 ⟨rfl, hb3⟩; have D3 : Below W.heap.size W w3 := D2.trans (hb3.mono D2.size)) | (go_at_call 7; refine (H3.go _).mono ?_; rintro e w4 ⟨rfl, hb4⟩))
    go_ret
    exact ⟨rfl, D3.trans (hb4.mono D3.size)⟩
  · clear hn
    go_enter Tryd.func3, Tryd.ntmps3
    go_wp2_with (first | (go_at_call 4; refine (H1.go _).mono ?_; rintro e w1 ⟨rfl, hb1⟩; have D1 : Below W.heap.size W w1 := ((Below.refl _ _).alloc (Nat.le_refl _) _).trans (hb1.mono (by simp)); have e1 : w1.cell? ⟨W.heap.size, 0, none⟩ = some (.int .u64 (h : Int)) := keepc hb1 (by simp [go_sem]); have e0 : w1.cell? ⟨W.heap.size, 1, none⟩ = some (.int .u64 (l : Int)) := keepc hb1 (by simp [go_sem])) | (go_at_call 5; refine (H2.go _).mono ?_; rintro e w2 ⟨rfl, hb2⟩; have D2 : Below W.heap.size W w2 := D1.trans (hb2.mono D1.size)) | (go_at_call 6; refine (awake7 _ (HT.out.below D2)).mono ?_; rintro e w3 ⟨rfl, hb3⟩; have D3 : Below W.heap.size W w3 := D2.trans (hb3.mono D2.size)) | (go_at_call 7; refine (H3.go _).mono ?_; rintro e w4 ⟨rfl, hb4⟩))
    go_ret
    exact ⟨rfl, D3.trans (hb4.mono D3.size)⟩
set_option maxHeartbeats 2000000 in
theorem an_ok (a : Option Addr) (len cap : Nat) (h l : Nat) (n : Nat) (n1 : 1 ≤ n) (n2 : n ≤ 20) (W : World) (hT : Tab W) :
    Calls Tryd.prog 3 #[.slice a len cap, .agg #[.int .u64 (h : Int), .int .u64 (l : Int)], .int .i64 (n : Int)] W fun e w' => e = .returned (.bool true) ∧ Below W.heap.size W w' := by
  have HT : Hid (Tab W) := hT
  have H1 := fwd_nil (.slice a len cap) h l
  have H2 := back_nil (.slice a len cap) h l
  have HS : Hid (∀ q, q = n * 2 ^ (n - 1) → Ret 7 #[.int .i64 (n : Int)] (.int .i64 (q : Int))) := fun q hq => steps_ok n q n1 n2 hq
  have i1 : (1 : Int) ≤ (n : Int) := by omega
  have i2 : (n : Int) ≤ 20 := by omega
  clear hT
  go_enter Tryd.func3, Tryd.ntmps3
  go_wp2_with (first | (go_at_call 4; refine (H1.go _).mono ?_; rintro e w1 ⟨rfl, hb1⟩; have D1 : Below W.heap.size W w1 := ((Below.refl _ _).alloc (Nat.le_refl _) _).trans (hb1.mono (by simp)); have e1 : w1.cell? ⟨W.heap.size, 0, none⟩ = some (.int .u64 (h : Int)) := keepc hb1 (by simp [go_sem]); have e0 : w1.cell? ⟨W.heap.size, 1, none⟩ = some (.int .u64 (l : Int)) := keepc hb1 (by simp [go_sem])) | (go_at_call 5; refine (H2.go _).mono ?_; rintro e w2 ⟨rfl, hb2⟩; have D2 : Below W.heap.size W w2 := D1.trans (hb2.mono D1.size)))
  have KD : Hid (Below W.heap.size W w2) := D2
  clear D2 D1 e1 e0 hb1 hb2 H1 H2
  go_loopw [11, 12] (fun v u wr => ∃ j q : Nat, 1 ≤ j ∧ j ≤ n ∧ Hid (q = n * 2 ^ (j - 1)) ∧ v = .int .i64 (q : Int) ∧ u = .int .i64 j ∧ w2 = wr) (fun _ u _ => n - (intOf u).toNat)
  case atStart => exact ⟨1, n, Nat.le_refl _, n1, (by show _ = _; simp), rfl, rfl, rfl⟩
  case round =>
    obtain ⟨j, q, hj1, hj, HQ, rfl, rfl, rfl⟩ := hrel
    by_cases hlt : j < n
    · have hq : q ≤ 20971520 := by
        rw [HQ.out]
        have := Nat.mul_le_mul n2 (pow20 (j - 1) (by omega))
        omega
      have hw : IntKind.i64.wrap (2 * (q : Int)) = ((2 * q : Nat) : Int) := by rw [IntKind.wrap_i64]; omega
      go_wp2
      exact ⟨⟨j + 1, 2 * q, by omega, hlt, (by show _ = _; rw [HQ.out, show j + 1 - 1 = (j - 1) + 1 by omega, Nat.pow_succ, Nat.mul_comm 2, Nat.mul_assoc]), by simp, by simp, by first | rfl | trivial⟩, by simp [intOf]; omega⟩
    · obtain rfl : n = j := by omega
      have H3 := HS.out q HQ.out
      have D2 := KD.out
      go_wp2_with (first | (go_at_call 6; refine (awake7 _ (HT.out.below D2)).mono ?_; rintro e w3 ⟨rfl, hb3⟩; have D3 : Below W.heap.size W w3 := D2.trans (hb3.mono D2.size)) | (go_at_call 7; refine (H3.go _).mono ?_; rintro e w4 ⟨rfl, hb4⟩))
      go_ret
      exact ⟨rfl, D3.trans (hb4.mono D3.size)⟩
theorem an_any (a : Option Addr) (len cap : Nat) (h l : Nat) (n : Int) (W : World) (hT : Tab W) :
    Calls Tryd.prog 3 #[.slice a len cap, .agg #[.int .u64 (h : Int), .int .u64 (l : Int)], .int .i64 n] W fun e w' => e = .returned (.bool true) ∧ Below W.heap.size W w' := by
  by_cases hn : 1 ≤ n ∧ n ≤ 20
  · obtain ⟨k, rfl⟩ : ∃ k : Nat, n = (k : Int) := ⟨n.toNat, by omega⟩
    exact an_ok a len cap h l k (by omega) (by omega) W hT
  · exact an_no a len cap h l n hn W hT
end Go.Proofs.YtcoocgdldoolaaaDoor
