/- Contracts of cube.isLevel, allOf, Log, hindrance and halved over the seat's translation. -/
import Derived.Test.YtejoombhcnldmaaCbA
import Derived.Test.YtejoombhcnldmaaPShelfB
import Derived.Deep.RegionHeld3
namespace Go.Proofs.Ytejoombhcnldmaa
open Go.RowKit
open Cb

theorem cand_nat (a b : Nat) (ha : a < 9223372036854775808) (hb : b < 9223372036854775808) : bits .and .i64 (a : Int) (b : Int) = ((a &&& b : Nat) : Int) := by
  have hx : a &&& b < 2 ^ 63 := Nat.and_lt_two_pow _ (by omega)
  have h1 : (BitVec.ofInt 64 (a : Int)).toNat = a := by
    rw [BitVec.ofInt_natCast, BitVec.toNat_ofNat]; exact Nat.mod_eq_of_lt (by omega)
  have h2 : (BitVec.ofInt 64 (b : Int)).toNat = b := by
    rw [BitVec.ofInt_natCast, BitVec.toNat_ofNat]; exact Nat.mod_eq_of_lt (by omega)
  show IntKind.i64.wrap ((BitVec.ofInt 64 (a : Int) &&& BitVec.ofInt 64 (b : Int)).toNat : Int) = _
  rw [BitVec.toNat_and, h1, h2, IntKind.wrap_i64]
  omega
/-- k of 2^k, or -1. -/
def lgz (n : Nat) : Int := if n ≠ 0 ∧ n.log2 ≤ 16 ∧ 2 ^ n.log2 = n then (n.log2 : Int) else -1
theorem lgz_two (k : Nat) (h : k ≤ 16) : lgz (2 ^ k) = (k : Int) := by
  unfold lgz
  rw [Nat.log2_two_pow, if_pos ⟨by have := Nat.two_pow_pos k; omega, h, rfl⟩]
theorem lgz_or (n : Nat) : lgz n = -1 ∨ ∃ k : Nat, k ≤ 16 ∧ n = 2 ^ k ∧ lgz n = (k : Int) := by
  unfold lgz
  split
  · rename_i h; exact .inr ⟨n.log2, h.2.1, h.2.2.symm, rfl⟩
  · exact .inl rfl
theorem lgz_no {n : Nat} (h : lgz n = -1) (k : Nat) (hk : k ≤ 16) : n ≠ 2 ^ k := by
  rintro rfl
  rw [lgz_two k hk] at h
  omega
set_option maxHeartbeats 400000 in
theorem clog_low (n : Int) (h : n < 1) : Ret 56 #[.int .i64 n] (.int .i64 (-1)) := by
  intro W
  go_enter Try.func56, Try.ntmps56
  go_wp2
  go_ret
  exact ⟨rfl, by first | exact Below.refl _ _ | go_grown⟩
set_option maxHeartbeats 400000 in
theorem clog_high (n : Int) (h0 : ¬ n < 1) (h : 65536 < n) : Ret 56 #[.int .i64 n] (.int .i64 (-1)) := by
  intro W
  go_enter Try.func56, Try.ntmps56
  go_wp2
  go_ret
  exact ⟨rfl, by first | exact Below.refl _ _ | go_grown⟩
set_option maxHeartbeats 400000 in
theorem clog_mid (n m : Nat) (h0 : 1 ≤ n) (h : n ≤ 65536) (hm : n &&& (n - 1) = m) (hm0 : ¬ m = 0) : Ret 56 #[.int .i64 (n : Int)] (.int .i64 (-1)) := by
  intro W
  have e1 : IntKind.i64.wrap ((n : Int) - 1) = ((n - 1 : Nat) : Int) := by rw [IntKind.wrap_i64]; omega
  have e2 : bits .and .i64 (n : Int) ((n - 1 : Nat) : Int) = (m : Int) := by rw [cand_nat n (n - 1) (by omega) (by omega), hm]
  have h1 : ¬ (n : Int) < 1 := by omega
  have h2 : ¬ 65536 < (n : Int) := by omega
  have h3 : ¬ (m : Int) = 0 := by omega
  clear hm h0 h
  generalize n - 1 = q at *
  go_enter Try.func56, Try.ntmps56
  go_wp2
  go_ret
  exact ⟨rfl, by first | exact Below.refl _ _ | go_grown⟩
theorem bitLen_two : ∀ k, k < 17 → Lib.bitLen (2 ^ k) = k + 1 := by decide
set_option maxHeartbeats 400000 in
theorem clog_two (k n : Nat) (hk : k ≤ 16) (hn : n = 2 ^ k) : Ret 56 #[.int .i64 (n : Int)] (.int .i64 (k : Int)) := by
  intro W
  have h0 : 1 ≤ n := by rw [hn]; exact Nat.two_pow_pos k
  have h : n ≤ 65536 := by rw [hn]; exact Nat.pow_le_pow_right (by decide) hk
  have e1 : IntKind.i64.wrap ((n : Int) - 1) = ((n - 1 : Nat) : Int) := by rw [IntKind.wrap_i64]; omega
  have e2 : bits .and .i64 (n : Int) ((n - 1 : Nat) : Int) = 0 := by
    rw [cand_nat n (n - 1) (by omega) (by omega), (Nat.and_sub_one_eq_zero_iff_isPowerOfTwo (by omega)).2 ⟨k, hn⟩]; rfl
  have h1 : ¬ (n : Int) < 1 := by omega
  have h2 : ¬ 65536 < (n : Int) := by omega
  have e3 : IntKind.u64.wrap (n : Int) = (n : Int) := by rw [IntKind.wrap_u64]; omega
  have HL : Hid (∀ w, Calls Try.prog 78 #[.int .u64 (n : Int)] w fun e w' => e = .returned (.int .i64 ((k + 1 : Nat) : Int)) ∧ w' = w) := fun w => by
    have := len_any (n : Int) w (by omega) (by omega)
    rw [Int.toNat_natCast, hn, bitLen_two k (by omega)] at this
    rw [hn]; exact this
  have e4 : IntKind.i64.wrap (((k + 1 : Nat) : Int) - 1) = (k : Int) := by rw [IntKind.wrap_i64]; omega
  clear hn h0 h
  generalize k + 1 = c at *
  generalize n - 1 = q at *
  go_enter Try.func56, Try.ntmps56
  go_wp2_with (go_at_call 78; refine (HL.out _).mono ?_; rintro e w1 ⟨rfl, rfl⟩)
  go_ret
  exact ⟨rfl, by first | exact Below.refl _ _ | go_grown⟩
/-- Log, of any length. -/
theorem clog_any (n : Nat) (hn : n < 2 ^ 40) : Ret 56 #[.int .i64 (n : Int)] (.int .i64 (lgz n)) := by
  rcases lgz_or n with h | ⟨k, hk, hn2, h⟩
  · rw [h]
    by_cases h0 : n < 1
    · exact clog_low _ (by omega)
    · by_cases h1 : n ≤ 65536
      · refine clog_mid n _ (by omega) h1 rfl fun e => ?_
        obtain ⟨k, hk⟩ := (Nat.and_sub_one_eq_zero_iff_isPowerOfTwo (by omega)).1 e
        refine lgz_no h k ?_ hk
        rcases Nat.lt_or_ge 16 k with h2 | h2
        · have : 2 ^ 17 ≤ 2 ^ k := Nat.pow_le_pow_right (by decide) h2
          omega
        · exact h2
      · exact clog_high _ (by omega) (by omega)
  · rw [h]; exact clog_two k n hk hn2

theorem clevel_yes (l : Int) (h : 0 ≤ l ∧ l ≤ 7) : Ret 68 #[.int .i64 l] (.bool true) := by
  intro W
  obtain ⟨h1, h2⟩ := h
  go_enter Try.func68, Try.ntmps68
  go_wp2
  go_ret
  exact ⟨rfl, by first | exact Below.refl _ _ | go_grown⟩
theorem clevel_no (l : Int) (h : ¬ (0 ≤ l ∧ l ≤ 7)) : Ret 68 #[.int .i64 l] (.bool false) := by
  intro W
  rcases Int.lt_or_le l 0 with h1 | h1
  · have h2 : ¬ 0 ≤ l := by omega
    go_enter Try.func68, Try.ntmps68
    go_wp2
    go_ret
    exact ⟨rfl, by first | exact Below.refl _ _ | go_grown⟩
  · have h2 : ¬ l ≤ 7 := by omega
    go_enter Try.func68, Try.ntmps68
    go_wp2
    go_ret
    exact ⟨rfl, by first | exact Below.refl _ _ | go_grown⟩
set_option maxHeartbeats 2000000 in
/-- Are all elements of a level? -/
theorem call_any (l : Int) (a : Option Addr) (cap : Nat) (es : List (Nat × Nat)) (hes : ltE es) (W : World) (hr : ERow W a es) (h10 : es.length ≤ 100000) :
    Calls Try.prog 69 #[.int .i64 l, .slice a es.length cap] W fun e w' => e = .returned (.bool (es.all fun e => ofB l (e.1 : Int) (e.2 : Int))) ∧ Below W.heap.size W w' := by
  have HR : Hid (ERow W a es) := hr
  have HO : Hid (∀ j : Nat, Ret 34 #[.int .i64 l, .agg #[.int .u64 ((es.getD j (0, 0)).1 : Int), .int .u64 ((es.getD j (0, 0)).2 : Int)]] (.bool (ofB l ((es.getD j (0, 0)).1 : Int) ((es.getD j (0, 0)).2 : Int)))) := fun j => of_ret l _ _ (hes.at j).2
  clear hr hes
  go_enter Try.func69, Try.ntmps69
  go_wp2_with fail
  go_loopw [9] (fun u wr => ∃ j : Nat, j ≤ es.length ∧ u = .int .i64 j ∧ Hid ((es.take j).all (fun e => ofB l (e.1 : Int) (e.2 : Int)) = true) ∧ Below W.heap.size W wr) (fun u _ => es.length - (intOf u).toNat)
  case atStart => exact ⟨0, Nat.zero_le _, rfl, (by rfl), Below.refl _ _⟩
  case round =>
    obtain ⟨j, hj, rfl, HT, hD⟩ := hrel
    by_cases hlt : j < es.length
    · obtain ⟨b, off, rfl, hb, c1, c0⟩ := HR.out.cells j hlt
      have d1 : wr.cell? ⟨b, off + j * 2, none⟩ = some (.int .u64 ((es.getD j (0, 0)).1 : Nat)) := by rw [hD.cell (p := ⟨b, off + j * 2, none⟩) hb]; exact c1
      have d0 : wr.cell? ⟨b, off + j * 2 + 1, none⟩ = some (.int .u64 ((es.getD j (0, 0)).2 : Nat)) := by rw [hD.cell (p := ⟨b, off + j * 2 + 1, none⟩) hb]; exact c0
      have H1 := HO.out j
      have HD : Hid (Below W.heap.size W wr) := hD
      have HS : Hid (es.take (j + 1) = es.take j ++ [es.getD j (0, 0)]) := take_sn es j hlt
      have HM : Hid (es.getD j (0, 0) ∈ es) := by show _ ∈ _; rw [show es.getD j (0, 0) = es[j] by simp [hlt]]; exact List.getElem_mem hlt
      clear hD c1 c0 HR HO
      generalize es.getD j (0, 0) = x at *
      rcases hB : ofB l (x.1 : Int) (x.2 : Int) with _ | _
      · rw [hB] at H1
        go_wp2_with fail
        refine (H1.go _).mono ?_
        rintro e w4 ⟨rfl, hb4⟩
        have HD4 : Hid (Below W.heap.size W w4) := (HD.out.alloc HD.out.size _).trans (hb4.mono (by have := HD.out.size; simp; omega))
        clear hb4 d1 d0 HD
        go_wp2
        go_ret
        refine ⟨?_, HD4.out⟩
        rw [show (es.all fun e => ofB l (e.1 : Int) (e.2 : Int)) = false from by
          rw [List.all_eq_false]; exact ⟨x, HM.out, by rw [hB]; decide⟩]
        rfl
      · rw [hB] at H1
        go_wp2_with fail
        refine (H1.go _).mono ?_
        rintro e w4 ⟨rfl, hb4⟩
        have HD4 : Hid (Below W.heap.size W w4) := (HD.out.alloc HD.out.size _).trans (hb4.mono (by have := HD.out.size; simp; omega))
        clear hb4 d1 d0 HD
        go_wp2
        exact ⟨⟨j + 1, hlt, by simp, (by show _ = _; rw [HS.out, List.all_append, HT.out]; simp [hB]), HD4.out⟩, by simp [intOf]; omega⟩
    · have HD : Hid (Below W.heap.size W wr) := hD
      obtain rfl : j = es.length := by omega
      clear hD
      go_wp2
      go_ret
      refine ⟨?_, HD.out⟩
      have := HT.out
      rw [List.take_of_length_le (Nat.le_refl _)] at this
      rw [this]
      rfl
/-- What hinders. -/
def hnd (l : Int) (f : Bool) (t p : List (Nat × Nat)) : Int :=
  if 0 ≤ l ∧ l ≤ 7 then (if f = true then (if (t.all fun e => ofB l (e.1 : Int) (e.2 : Int)) = true ∧ (p.all fun e => ofB l (e.1 : Int) (e.2 : Int)) = true then 0 else 5) else 6) else 1
set_option maxHeartbeats 1000000 in
theorem hind_any (l : Int) (f : Bool) (a c : Option Addr) (cap cap2 : Nat) (t p : List (Nat × Nat)) (ht : ltE t) (hp : ltE p) (h1 : t.length ≤ 100000) (h2 : p.length ≤ 100000) (W : World) (ha : ERow W a t) (hc : ERow W c p) :
    Calls Try.prog 55 #[.int .i64 l, .bool f, .slice a t.length cap, .slice c p.length cap2] W fun e w' => e = .returned (.int .i64 (hnd l f t p)) ∧ Below W.heap.size W w' := by
  have HA : Hid (∀ w, Below W.heap.size W w → Calls Try.prog 69 #[.int .i64 l, .slice a t.length cap] w fun e w' => e = .returned (.bool (t.all fun e => ofB l (e.1 : Int) (e.2 : Int))) ∧ Below w.heap.size w w') := fun w hb => call_any l a cap t ht w (ha.below hb) h1
  have HC : Hid (∀ w, Below W.heap.size W w → Calls Try.prog 69 #[.int .i64 l, .slice c p.length cap2] w fun e w' => e = .returned (.bool (p.all fun e => ofB l (e.1 : Int) (e.2 : Int))) ∧ Below w.heap.size w w') := fun w hb => call_any l c cap2 p hp w (hc.below hb) h2
  unfold hnd
  clear ha hc ht hp h1 h2
  generalize (t.all fun e => ofB l (e.1 : Int) (e.2 : Int)) = x at *
  generalize (p.all fun e => ofB l (e.1 : Int) (e.2 : Int)) = y at *
  by_cases hl : 0 ≤ l ∧ l ≤ 7
  · have HL := clevel_yes l hl
    rw [if_pos hl]
    cases f
    · rw [if_neg (by decide)]
      go_enter Try.func55, Try.ntmps55
      go_wp2_with (go_at_call 68; refine (HL.go _).mono ?_; rintro e w1 ⟨rfl, hb1⟩)
      go_ret
      exact ⟨rfl, hb1⟩
    · rw [if_pos rfl]
      cases x
      · rw [if_neg (by rintro ⟨h, _⟩; cases h)]
        go_enter Try.func55, Try.ntmps55
        go_wp2_with (first | (go_at_call 68; refine (HL.go _).mono ?_; rintro e w1 ⟨rfl, hb1⟩) | (go_at_call 69; refine (HA.out _ hb1).mono ?_; rintro e w2 ⟨rfl, hb2⟩))
        go_ret
        exact ⟨rfl, hb1.trans (hb2.mono hb1.size)⟩
      · cases y
        · rw [if_neg (by rintro ⟨_, h⟩; cases h)]
          go_enter Try.func55, Try.ntmps55
          go_wp2_with (first | (go_at_call 68; refine (HL.go _).mono ?_; rintro e w1 ⟨rfl, hb1⟩) | (go_at_call_of 69 (#[.int .i64 l, .slice a t.length cap] : Array Value); refine (HA.out _ hb1).mono ?_; rintro e w2 ⟨rfl, hb2⟩; have hb := hb1.trans (hb2.mono hb1.size); clear HA) | (go_at_call 69; refine (HC.out _ hb).mono ?_; rintro e w3 ⟨rfl, hb3⟩))
          go_ret
          exact ⟨rfl, hb.trans (hb3.mono hb.size)⟩
        · rw [if_pos ⟨rfl, rfl⟩]
          go_enter Try.func55, Try.ntmps55
          go_wp2_with (first | (go_at_call 68; refine (HL.go _).mono ?_; rintro e w1 ⟨rfl, hb1⟩) | (go_at_call_of 69 (#[.int .i64 l, .slice a t.length cap] : Array Value); refine (HA.out _ hb1).mono ?_; rintro e w2 ⟨rfl, hb2⟩; have hb := hb1.trans (hb2.mono hb1.size); clear HA) | (go_at_call 69; refine (HC.out _ hb).mono ?_; rintro e w3 ⟨rfl, hb3⟩))
          go_ret
          exact ⟨rfl, hb.trans (hb3.mono hb.size)⟩
  · have HL := clevel_no l hl
    rw [if_neg hl]
    go_enter Try.func55, Try.ntmps55
    go_wp2_with (go_at_call 68; refine (HL.go _).mono ?_; rintro e w1 ⟨rfl, hb1⟩)
    go_ret
    exact ⟨rfl, hb1⟩
end Go.Proofs.Ytejoombhcnldmaa
