/- The contract of the document's Point over the seat's translation. -/
import Derived.Test.YtkllihomdlibgaaSqY
namespace Go.Proofs.Ytkllihomdlibgaa
open Go.RowKit
open Cb Rg Sq

set_option maxHeartbeats 4000000 in
set_option maxRecDepth 100000 in
theorem rpoint_neg (a : Option Addr) (cap M : Nat) (n : Int) (h : n < 0) : Ret 21 #[.slice a M cap, .int .i64 n] (.agg #[.int .u64 0, .int .u64 0]) := by
  intro W
  have K := hidT (two_rooms W 30)
  obtain ⟨⟨r1, r0⟩, t1, t0⟩ := K.out.r
  obtain ⟨⟨s1, s0⟩, _, _⟩ := K.out.s
  go_enter Try.func21, Try.ntmps21
  go_wp2
  refine bodyPost_ret (v := .agg #[.int .u64 0, .int .u64 0]) (by simp [results, Try.results21, go_sem, *]) rfl ⟨rfl, ?_⟩
  exact K.out.d
theorem half_bit (n j : Nat) : ((n / 2 ^ j : Nat) : Int).tmod 2 = (if n.testBit j = true then 1 else 0) ∧ ((n / 2 ^ j : Nat) : Int).tdiv 2 = ((n / 2 ^ (j + 1) : Nat) : Int) := by
  have e1 : n / 2 ^ (j + 1) = n / 2 ^ j / 2 := by rw [Nat.pow_succ, Nat.div_div_eq_div_mul]
  rw [Nat.testBit_eq_decide_div_mod_eq, e1]
  generalize n / 2 ^ j = m
  constructor
  · rw [Int.tmod_eq_emod_of_nonneg (Int.natCast_nonneg _)]
    rcases Nat.mod_two_eq_zero_or_one m with e | e
    · rw [e, if_neg (by decide)]; omega
    · rw [e, if_pos (by decide)]; omega
  · rw [Int.tdiv_eq_ediv_of_nonneg (Int.natCast_nonneg _)]; omega
set_option maxHeartbeats 16000000 in
set_option maxRecDepth 100000 in
theorem rpoint_nat (a : Option Addr) (cap n : Nat) (hn : n < 9223372036854775808) (l : List (Nat × Nat)) (hl : ltE l) (h62 : l.length ≤ 62) (W : World) (hr : ERow W a l) :
    Calls Try.prog 21 #[.slice a l.length cap, .int .i64 (n : Int)] W fun e w' => e = .returned (.agg #[.int .u64 ((pvN l n l.length).1 : Int), .int .u64 ((pvN l n l.length).2 : Int)]) ∧ Below W.heap.size W w' := by
  have HR := hidT hr
  have HA : Hid (∀ j : Nat, Ret 42 #[.agg #[.int .u64 ((pvN l n j).1 : Int), .int .u64 ((pvN l n j).2 : Int)], .agg #[.int .u64 ((el l j).1 : Int), .int .u64 ((el l j).2 : Int)]] (.agg #[.int .u64 ((xa (pvN l n j) (el l j)).1 : Int), .int .u64 ((xa (pvN l n j) (el l j)).2 : Int)])) := fun j => radd _ _ _ _ (lt_pvN hl n j).1 (lt_pvN hl n j).2 (ltE_el hl j).1 (ltE_el hl j).2
  have HS : Hid (∀ j : Nat, pvN l n (j + 1) = if n.testBit j = true then xa (pvN l n j) (el l j) else pvN l n j) := fun j => by
    show xa (pvN l n j) (sl (n.testBit j) (el l j)) = _
    cases n.testBit j
    · exact xa_zero _
    · rfl
  have HB : Hid (∀ j : Nat, (((n / 2 ^ j : Nat) : Int).tmod 2 = (if n.testBit j = true then 1 else 0) ∧ ((n / 2 ^ j : Nat) : Int).tdiv 2 = ((n / 2 ^ (j + 1) : Nat) : Int)) ∧ n / 2 ^ j < 9223372036854775808) := fun j => ⟨half_bit n j, Nat.lt_of_le_of_lt (Nat.div_le_self _ _) hn⟩
  have HN0 : Hid (n = n / 2 ^ 0) := by show _ = _; simp
  obtain ⟨N, hN⟩ : ∃ N, N = l.length := ⟨_, rfl⟩
  rw [← hN] at h62 ⊢
  have HNL : Hid (l.length = N) := hN.symm
  have K0 : Hid (Pt4 W ((W.alloc (Obj.cells #[.int .u64 0, .int .u64 0] 30)).alloc (Obj.cells #[.int .u64 0, .int .u64 0] 30)) (pvN l n 0)) := two_rooms W 30
  clear hr hl hN
  go_enter Try.func21, Try.ntmps21
  go_wp2_with fail
  go_loopw [1, 6] (fun v u wr => ∃ j : Nat, j ≤ N ∧ u = .int .i64 j ∧ v = .int .i64 ((n / 2 ^ j : Nat) : Int) ∧ Hid (Pt4 W wr (pvN l n j))) (fun _ u _ => N - (intOf u).toNat)
  case atStart => exact ⟨0, Nat.zero_le _, rfl, by rw [← HN0.out], K0⟩
  case round =>
    obtain ⟨j, hj, rfl, rfl, HK⟩ := hrel
    clear K0 HN0
    by_cases hlt : j < N
    · obtain ⟨b, off, rfl, hb, c1, c0⟩ := HR.out.cells j (by rw [HNL.out]; exact hlt)
      have HAc : Hid (b < W.heap.size ∧ W.cell? ⟨b, off + j * 2, none⟩ = some (.int .u64 ((el l j).1 : Int)) ∧ W.cell? ⟨b, off + j * 2 + 1, none⟩ = some (.int .u64 ((el l j).2 : Int))) := ⟨hb, c1, c0⟩
      have H2 := hidT (HA.out j)
      have H3 := hidT (HS.out j)
      obtain ⟨⟨f1, f2⟩, f3⟩ := HB.out j
      obtain ⟨_, f4⟩ := HB.out (j + 1)
      have j1 : (j : Int) < (N : Int) := by omega
      have j0 : (0 : Int) ≤ (j : Int) := by omega
      have j62 : (j : Int) < 62 := by omega
      clear hb c1 c0 HR HA HS HB hn
      generalize xa (pvN l n j) (el l j) = z at *
      generalize pvN l n j = s at *
      generalize el l j = y at *
      obtain ⟨m2, hm2⟩ : ∃ m2, m2 = n / 2 ^ (j + 1) := ⟨_, rfl⟩
      have HM2 := hidT hm2
      rw [← hm2] at f2 f4
      generalize n / 2 ^ j = m at *
      have f5 : (m : Int) / 2 = (m2 : Int) := by rw [Int.tdiv_eq_ediv_of_nonneg (by omega)] at f2; exact f2
      have f6 : IntKind.i64.wrap (m2 : Int) = (m2 : Int) := by rw [IntKind.wrap_i64]; omega
      clear hm2
      cases hB : n.testBit j
      · rw [hB] at f1
        simp only [Bool.false_eq_true, if_false] at f1
        have f7 : (m : Int) % 2 = 0 := by rw [Int.tmod_eq_emod_of_nonneg (by omega)] at f1; exact f1
        have hs' : Hid (pvN l n (j + 1) = s) := by show _ = _; rw [H3.out, hB]; rfl
        clear H3 H2 hB
        go_wp2_with fail
        exact ⟨⟨j + 1, hlt, by simp, by rw [← HM2.out], by rw [hs'.out]; exact HK⟩, by simp [intOf]; omega⟩
      · rw [hB] at f1
        simp only [if_true] at f1
        have f7 : (m : Int) % 2 = 1 := by rw [Int.tmod_eq_emod_of_nonneg (by omega)] at f1; exact f1
        have hs' : Hid (pvN l n (j + 1) = z) := by show _ = _; rw [H3.out, hB]; rfl
        clear H3 hB
        have K := HK.out
        go_upto_region 8 with fail
        clear HK
        obtain ⟨y1, y0, s1, s0, t1, t0⟩ := K.facts HAc.out
        go_region_with (go_at_call 42; refine (H2.out.go _).mono ?_; rintro e w' ⟨rfl, hb'⟩; have K'' := Pt4.below (w' := w') (by first | exact K | exact K.drew) hb'; clear y1 y0 s1 s0 t1 t0 K hb'; have K := K''; clear K''; (try simp only [World.size_drew] at K); obtain ⟨y1, y0, s1, s0, t1, t0⟩ := K.facts HAc.out)
        all_goals
          go_wp2
          exact ⟨⟨j + 1, hlt, by simp, by rw [← HM2.out], by rw [hs'.out]; exact K.put _⟩, by simp [intOf]; omega⟩
    · obtain rfl : j = N := by omega
      have HD := hidT HK.out.d
      obtain ⟨⟨s1, s0⟩, _, _⟩ := HK.out.s
      obtain ⟨⟨r1, r0⟩, t1, t0⟩ := HK.out.r
      obtain ⟨s, hs⟩ : ∃ s, s = pvN l n j := ⟨_, rfl⟩
      have HSS : Hid (s = pvN l n j) := hs
      rw [← hs] at s1 s0
      clear HK HR HS HA hs HB
      go_wp2
      refine bodyPost_ret (v := .agg #[.int .u64 (s.1 : Int), .int .u64 (s.2 : Int)]) (by simp [results, Try.results21, go_sem, *]) rfl ⟨by rw [HSS.out], ?_⟩
      exact below2 (p := W.heap.size) HD.out (Nat.le_refl _) _ _
theorem rpoint_all (a : Option Addr) (cap : Nat) (n : Int) (hn : n < 9223372036854775808) (l : List (Nat × Nat)) (hl : ltE l) (h62 : l.length ≤ 62) (W : World) (hr : ERow W a l) :
    Calls Try.prog 21 #[.slice a l.length cap, .int .i64 n] W fun e w' => e = .returned (.agg #[.int .u64 ((pv l n).1 : Int), .int .u64 ((pv l n).2 : Int)]) ∧ Below W.heap.size W w' := by
  unfold pv
  by_cases h : n < 0
  · rw [if_pos h]
    exact rpoint_neg a cap _ n h W
  · rw [if_neg h]
    obtain ⟨k, rfl⟩ : ∃ k : Nat, n = (k : Int) := ⟨n.toNat, by omega⟩
    exact rpoint_nat a cap k (by omega) l hl h62 W hr
end Go.Proofs.Ytkllihomdlibgaa
