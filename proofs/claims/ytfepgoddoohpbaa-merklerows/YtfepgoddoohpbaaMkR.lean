/- Which rows halve, as the law reckons it; the walk of MerkleRows over the seat's translation. -/
import Derived.Test.YtfepgoddoohpbaaMkF
namespace Go.Proofs.Ytfepgoddoohpbaa
open Go.RowKit

/-- What the law asks of the row k. -/
def cnd (rl : Nat → Nat) (N k : Nat) : Bool := decide (rl k = rl 0 / 2 ^ k) && (decide (k < N - 1) || decide (rl 0 / 2 ^ k = 1)) && (decide (rl 0 / 2 ^ k % 2 = 0) || (decide (rl 0 / 2 ^ k = 1) && decide (k = N - 1)))
def ftB (rl : Nat → Nat) (N m : Nat) : Bool := decide (0 < N) && (List.range m).all (cnd rl N)
theorem ftB_succ (rl : Nat → Nat) (N m : Nat) : ftB rl N (m + 1) = (ftB rl N m && cnd rl N m) := by simp [ftB, List.range_succ, Bool.and_assoc]
theorem ft_hv (rl : Nat → Nat) (N : Nat) : ftB rl (N + 1) (N + 1) = (hvB rl N && decide (rl N = 1)) := by
  have key : ftB rl (N + 1) (N + 1) = true ↔ (hvB rl N = true ∧ rl N = 1) := by
    constructor
    · intro h
      simp only [ftB, Bool.and_eq_true, List.all_eq_true, List.mem_range] at h
      have hc : ∀ k, k < N + 1 → rl k = rl 0 / 2 ^ k ∧ (k < N ∨ rl 0 / 2 ^ k = 1) ∧ (rl 0 / 2 ^ k % 2 = 0 ∨ (rl 0 / 2 ^ k = 1 ∧ k = N)) := fun k hk => by
        have := h.2 k hk
        simp [cnd] at this
        exact ⟨this.1.1, this.1.2, this.2⟩
      constructor
      · unfold hvB
        rw [List.all_eq_true]
        intro k hk
        have hk' : k < N := by simpa using hk
        have h1 := hc k (by omega)
        have h2 := hc (k + 1) (by omega)
        have e : rl 0 / 2 ^ (k + 1) = rl 0 / 2 ^ k / 2 := by rw [Nat.pow_succ, Nat.div_div_eq_div_mul]
        simp
        omega
      · have h1 := hc N (by omega)
        omega
    · rintro ⟨hv, h1⟩
      simp only [ftB, Bool.and_eq_true, List.all_eq_true, List.mem_range]
      refine ⟨by simp, fun k hk => ?_⟩
      have e0 := half_pow N 0 (by omega) hv h1
      have ek := half_pow N k (by omega) hv h1
      have en : rl 0 / 2 ^ k = 2 ^ (N - k) := by rw [e0, Nat.sub_zero, Nat.pow_div (by omega) (by decide)]
      by_cases e : k = N
      · subst e
        simp [cnd, en, ek]
      · have hp : 2 ^ (N - k) = 2 * 2 ^ (N - k - 1) := by rw [show N - k = (N - k - 1) + 1 by omega, Nat.pow_succ, Nat.mul_comm]; rfl
        have hk' : k < N := by omega
        simp only [cnd, en, ek, Bool.and_eq_true, Bool.or_eq_true, decide_eq_true_eq]
        refine ⟨⟨trivial, .inl (by omega)⟩, .inl ?_⟩
        rw [hp]
        omega
  cases h1 : ftB rl (N + 1) (N + 1)
  · symm
    rw [Bool.eq_false_iff]
    intro h2
    rw [Bool.and_eq_true, decide_eq_true_eq] at h2
    rw [key.2 h2] at h1
    cases h1
  · obtain ⟨h2, h3⟩ := key.1 h1
    rw [h2, h3]
    rfl
/-- Is one of the statement's rows too long, or has it too long texts? -/
theorem few_len {ss : List ByteArray} (h : fewB ss 20 40 = true) : ss.length ≤ 20 := by have := (fewB_of h).1; omega
set_option maxHeartbeats 16000000 in
set_option maxRecDepth 100000 in
theorem mr_core (b off M P cap : Nat) (i : Int) (ra : Nat → Option Addr) (rc : Nat → Nat) (ss : Nat → List ByteArray) (rl : Nat → Nat) (F : Nat → Nat → ByteArray) (hM1 : 1 ≤ M) (hM8 : M ≤ 8) (hP : P = M - 1) (hrl : ∀ k, rl k = (ss k).length)
    (W : World) (hm : ∀ k, k < M → (ss k).length ≤ maxLen ∧ StrRow W (ra k) (ss k)) (hG : Gr W (some ⟨b, off, none⟩) M ra rl rc F)
    (HP1 : Hid (∀ w, Below W.heap.size W w → (i < 0 ∨ (rl 0 : Int) ≤ i) → Calls Try.prog 12 #[.slice (some ⟨b, off, none⟩) M cap, .int .i64 i] w fun e w' => e = .returned (.tuple #[.slice none 0 0, .int .i64 4]) ∧ w' = w))
    (HP2 : Hid (∀ w (j : Nat), Below W.heap.size W w → j < rl 0 → (∀ k, k < M → rl k ≤ 20) → ftB rl M M = false → Calls Try.prog 12 #[.slice (some ⟨b, off, none⟩) M cap, .int .i64 (j : Int)] w fun e w' => e = .returned (.tuple #[.slice none 0 0, .int .i64 6]) ∧ w' = w))
    (HP3 : Hid (∀ w (j : Nat), Below W.heap.size W w → j < rl 0 → (∀ k, k < M → rl k ≤ 20) → ftB rl M M = true → Calls Try.prog 12 #[.slice (some ⟨b, off, none⟩) M cap, .int .i64 (j : Int)] w fun e w' => ∃ b', e = .returned (.tuple #[.slice (some ⟨b', 0, none⟩) P P, .int .i64 0]) ∧ w'.rowIs b' 9 P (fun k => .string (F k (sib j k))) ∧ (∀ k, k < P → sib j k < rl k) ∧ Below w.heap.size w w')) :
    Calls Try.prog 4 #[.slice (some ⟨b, off, none⟩) M cap, .int .i64 i] W fun e w' => e = .returned (.bool true) ∧ Below W.heap.size W w' := by
  have HM : Hid (∀ k, k < M → (ss k).length ≤ maxLen ∧ StrRow W (ra k) (ss k)) := hm
  have HG : Hid (Gr W (some ⟨b, off, none⟩) M ra rl rc F) := hG
  have HL : Hid (∀ k, rl k = (ss k).length) := hrl
  have HPP : Hid (P = M - 1) := hP
  obtain ⟨b0, o0, e0, hb0, c0⟩ := hG.top 0 (by omega)
  obtain ⟨rfl, rfl⟩ : b = b0 ∧ off = o0 := by injection e0 with e; injection e with h1 h2; exact ⟨h1, h2⟩
  rw [Nat.add_zero] at c0
  have g1 : ¬ (8 : Int) < (M : Int) := by omega
  have g2 : (0 : Int) < (M : Int) := by omega
  have g3 : 0 < M := by omega
  clear hm hG hrl e0 hP
  go_enter Try.func4, Try.ntmps4
  go_wp2_with (go_at_call 8; refine (awake12.go _).mono ?_; rintro e w1 ⟨rfl, hb1⟩)
  have HD : Hid (Below W.heap.size W w1) := hb1
  have d0 := keepc hb1 c0
  clear hb1 c0
  go_loopw [5, 6, 7] (fun f v u wr => ∃ (k m : Nat) (bb : Bool), k ≤ M ∧ u = .int .i64 k ∧ v = .int .i64 m ∧ f = .bool bb ∧ Hid (0 < k → m = rl 0 / 2 ^ k) ∧ Hid (bb = ftB rl M k) ∧ Hid (∀ j, j < k → rl j ≤ 20) ∧ w1 = wr) (fun _ _ u _ => M - (intOf u).toNat)
  case atStart => exact ⟨0, 0, true, Nat.zero_le _, rfl, rfl, rfl, (fun h => absurd h (Nat.lt_irrefl 0)), (by show true = ftB rl M 0; simp [ftB]; omega), (fun j hj => absurd hj (Nat.not_lt_zero j)), rfl⟩
  case round =>
    obtain ⟨k, m, bb, hk, rfl, rfl, rfl, HX, HB, HA, rfl⟩ := hrel
    by_cases hlt : k < M
    · have k1 : (k : Int) < (M : Int) := by omega
      have k0 : (0 : Int) ≤ (k : Int) := by omega
      obtain ⟨b1, o1, e1, _, c1⟩ := HG.out.top k hlt
      obtain ⟨rfl, rfl⟩ : b = b1 ∧ off = o1 := by injection e1 with e; injection e with h1 h2; exact ⟨h1, h2⟩
      have d1 := keepc HD.out c1
      clear c1 e1
      have hmk := HM.out k hlt
      have hlk := HL.out k
      cases hf : fewB (ss k) 20 40
      · have HW : Hid (Calls Try.prog 6 #[.slice (ra k) (rl k) (rc k), .int .i64 20, .int .i64 40] w1 fun e w' => e = .returned (.bool false) ∧ w' = w1) := by
          have := few_any (ra k) (ss k) (rc k) 20 40 hmk.1 w1 (hmk.2.below HD.out)
          rw [hf] at this
          rw [hlk]
          exact this
        clear hmk hlk hf
        go_wp2_with (go_at_call 6; refine HW.out.mono ?_; rintro e w9 ⟨rfl, hw⟩; obtain rfl := hw.symm; clear hw)
        go_ret
        exact ⟨rfl, HD.out⟩
      · have HW : Hid (∀ w, w = w1 → Calls Try.prog 6 #[.slice (ra k) (rl k) (rc k), .int .i64 20, .int .i64 40] w fun e w' => e = .returned (.bool true) ∧ w' = w) := fun w hw => by
          subst hw
          have := few_any (ra k) (ss k) (rc k) 20 40 hmk.1 w (hmk.2.below HD.out)
          rw [hf] at this
          rw [hlk]
          exact this
        have hl20 : rl k ≤ 20 := by rw [hlk]; exact few_len hf
        have HA2 : Hid (∀ j, j < k + 1 → rl j ≤ 20) := fun j hj => by
          by_cases e : j = k
          · subst e; exact hl20
          · exact HA.out j (by omega)
        have HS : Hid (ftB rl M (k + 1) = (ftB rl M k && cnd rl M k)) := ftB_succ rl M k
        have HCN : Hid (cnd rl M k = (decide (rl k = rl 0 / 2 ^ k) && (decide (k < M - 1) || decide (rl 0 / 2 ^ k = 1)) && (decide (rl 0 / 2 ^ k % 2 = 0) || (decide (rl 0 / 2 ^ k = 1) && decide (k = M - 1))))) := rfl
        have HX2 : Hid (0 < k + 1 → rl 0 / 2 ^ k / 2 = rl 0 / 2 ^ (k + 1)) := fun _ => by rw [Nat.pow_succ, Nat.div_div_eq_div_mul]
        clear hmk hlk hf
        by_cases hk0 : k = 0
        · have z0 : ((k : Int) == 0) = true := by simp [hk0]
          have hx0 : rl 0 / 2 ^ k = rl 0 := by rw [hk0, Nat.pow_zero, Nat.div_one]
          rw [hx0] at HCN HX2
          clear HX hx0 hk0
          have hx20 : rl 0 ≤ 20 := HA2.out 0 (by omega)
          generalize rl 0 = x at d0 HCN HX2 hx20
          generalize rl k = y at d1 HW HCN hl20
          generalize hz : x / 2 = z at HX2
          have q1 : (x : Int).tdiv 2 = (z : Int) := by rw [Int.tdiv_eq_ediv_of_nonneg (by omega)]; omega
          have q2 : (x : Int) / 2 = (z : Int) := by omega
          clear hz
          cases bb
          · have HBk : Hid (ftB rl M k = false) := HB.out.symm
            clear HB
            have HT : Hid (ftB rl M (k + 1) = false) := by show _ = _; rw [HS.out, HBk.out, HCN.out]; simp [*]
            clear HS HBk HCN 
            go_wp2_with (go_at_call 6; refine (HW.out _ rfl).mono ?_; rintro e w9 ⟨rfl, hw⟩; obtain rfl := hw.symm; clear hw)
            exact ⟨⟨k + 1, z, false, hlt, by simp, by simp, rfl, HX2, (HT.out.symm : false = ftB rl M (k + 1)), HA2, by first | rfl | trivial⟩, by simp [intOf]; omega⟩
          · have HBk : Hid (ftB rl M k = true) := HB.out.symm
            clear HB
            by_cases e1 : y = x
            · by_cases e2 : k < M - 1
              · by_cases e4 : x % 2 = 0
                · skip
                  have i1 : ((y : Int) == (x : Int)) = true := by simp; omega
                  have i2 : (k : Int) < (M : Int) - 1 := by omega
                  have i5 : ((k : Int) == (M : Int) - 1) = false := by simp; omega
                  have i4 : ((x : Int).tmod 2 == 0) = true := by rw [Int.tmod_eq_emod_of_nonneg (by omega)]; simp; omega
                  have i6 : ((x : Int) % 2 == 0) = true := by simp; omega
                  have HT : Hid (ftB rl M (k + 1) = true) := by show _ = _; rw [HS.out, HBk.out, HCN.out]; simp [*]
                  clear HS HBk HCN e1 e2 e4
                  go_wp2_with (go_at_call 6; refine (HW.out _ rfl).mono ?_; rintro e w9 ⟨rfl, hw⟩; obtain rfl := hw.symm; clear hw)
                  exact ⟨⟨k + 1, z, true, hlt, by simp, by simp, rfl, HX2, (HT.out.symm : true = ftB rl M (k + 1)), HA2, by first | rfl | trivial⟩, by simp [intOf]; omega⟩
                · by_cases e3 : x = 1
                  · have e5 : ¬ k = M - 1 := by omega
                    have i1 : ((y : Int) == (x : Int)) = true := by simp; omega
                    have i2 : (k : Int) < (M : Int) - 1 := by omega
                    have i5 : ((k : Int) == (M : Int) - 1) = false := by simp; omega
                    have i3 : ((x : Int) == 1) = true := by simp; omega
                    have i4 : ((x : Int).tmod 2 == 0) = false := by rw [Int.tmod_eq_emod_of_nonneg (by omega)]; simp; omega
                    have i6 : ((x : Int) % 2 == 0) = false := by simp; omega
                    have HT : Hid (ftB rl M (k + 1) = false) := by show _ = _; rw [HS.out, HBk.out, HCN.out]; simp [*]
                    clear HS HBk HCN e1 e2 e4 e3 e5
                    go_wp2_with (go_at_call 6; refine (HW.out _ rfl).mono ?_; rintro e w9 ⟨rfl, hw⟩; obtain rfl := hw.symm; clear hw)
                    exact ⟨⟨k + 1, z, false, hlt, by simp, by simp, rfl, HX2, (HT.out.symm : false = ftB rl M (k + 1)), HA2, by first | rfl | trivial⟩, by simp [intOf]; omega⟩
                  · skip
                    have i1 : ((y : Int) == (x : Int)) = true := by simp; omega
                    have i2 : (k : Int) < (M : Int) - 1 := by omega
                    have i5 : ((k : Int) == (M : Int) - 1) = false := by simp; omega
                    have i3 : ((x : Int) == 1) = false := by simp; omega
                    have i4 : ((x : Int).tmod 2 == 0) = false := by rw [Int.tmod_eq_emod_of_nonneg (by omega)]; simp; omega
                    have i6 : ((x : Int) % 2 == 0) = false := by simp; omega
                    have HT : Hid (ftB rl M (k + 1) = false) := by show _ = _; rw [HS.out, HBk.out, HCN.out]; simp [*]
                    clear HS HBk HCN e1 e2 e4 e3
                    go_wp2_with (go_at_call 6; refine (HW.out _ rfl).mono ?_; rintro e w9 ⟨rfl, hw⟩; obtain rfl := hw.symm; clear hw)
                    exact ⟨⟨k + 1, z, false, hlt, by simp, by simp, rfl, HX2, (HT.out.symm : false = ftB rl M (k + 1)), HA2, by first | rfl | trivial⟩, by simp [intOf]; omega⟩
              · by_cases e3 : x = 1
                · have e4 : ¬ x % 2 = 0 := by omega
                  have e5 : k = M - 1 := by omega
                  have i1 : ((y : Int) == (x : Int)) = true := by simp; omega
                  have i2 : ¬ (k : Int) < (M : Int) - 1 := by omega
                  have i5 : ((k : Int) == (M : Int) - 1) = true := by simp; omega
                  have i3 : ((x : Int) == 1) = true := by simp; omega
                  have i4 : ((x : Int).tmod 2 == 0) = false := by rw [Int.tmod_eq_emod_of_nonneg (by omega)]; simp; omega
                  have i6 : ((x : Int) % 2 == 0) = false := by simp; omega
                  have HT : Hid (ftB rl M (k + 1) = true) := by show _ = _; rw [HS.out, HBk.out, HCN.out]; simp [*]
                  clear HS HBk HCN e1 e2 e4 e3 e5
                  go_wp2_with (go_at_call 6; refine (HW.out _ rfl).mono ?_; rintro e w9 ⟨rfl, hw⟩; obtain rfl := hw.symm; clear hw)
                  exact ⟨⟨k + 1, z, true, hlt, by simp, by simp, rfl, HX2, (HT.out.symm : true = ftB rl M (k + 1)), HA2, by first | rfl | trivial⟩, by simp [intOf]; omega⟩
                · skip
                  have i1 : ((y : Int) == (x : Int)) = true := by simp; omega
                  have i2 : ¬ (k : Int) < (M : Int) - 1 := by omega
                  have i5 : ((k : Int) == (M : Int) - 1) = true := by simp; omega
                  have i3 : ((x : Int) == 1) = false := by simp; omega
                  have HT : Hid (ftB rl M (k + 1) = false) := by show _ = _; rw [HS.out, HBk.out, HCN.out]; simp [*]
                  clear HS HBk HCN e1 e2 e3
                  go_wp2_with (go_at_call 6; refine (HW.out _ rfl).mono ?_; rintro e w9 ⟨rfl, hw⟩; obtain rfl := hw.symm; clear hw)
                  exact ⟨⟨k + 1, z, false, hlt, by simp, by simp, rfl, HX2, (HT.out.symm : false = ftB rl M (k + 1)), HA2, by first | rfl | trivial⟩, by simp [intOf]; omega⟩
            · skip
              have i1 : ((y : Int) == (x : Int)) = false := by simp; omega
              have HT : Hid (ftB rl M (k + 1) = false) := by show _ = _; rw [HS.out, HBk.out, HCN.out]; simp [*]
              clear HS HBk HCN e1
              go_wp2_with (go_at_call 6; refine (HW.out _ rfl).mono ?_; rintro e w9 ⟨rfl, hw⟩; obtain rfl := hw.symm; clear hw)
              exact ⟨⟨k + 1, z, false, hlt, by simp, by simp, rfl, HX2, (HT.out.symm : false = ftB rl M (k + 1)), HA2, by first | rfl | trivial⟩, by simp [intOf]; omega⟩
        · have z0 : ((k : Int) == 0) = false := by simp; omega
          have hx0 := HX.out (by omega)
          rw [← hx0] at HCN HX2
          have hx20 : m ≤ 20 := by rw [hx0]; exact Nat.le_trans (Nat.div_le_self _ _) (HA2.out 0 (by omega))
          clear HX hx0 hk0
          generalize rl k = y at d1 HW HCN hl20
          generalize hz : m / 2 = z at HX2
          have q1 : (m : Int).tdiv 2 = (z : Int) := by rw [Int.tdiv_eq_ediv_of_nonneg (by omega)]; omega
          have q2 : (m : Int) / 2 = (z : Int) := by omega
          clear hz
          cases bb
          · have HBk : Hid (ftB rl M k = false) := HB.out.symm
            clear HB
            have HT : Hid (ftB rl M (k + 1) = false) := by show _ = _; rw [HS.out, HBk.out, HCN.out]; simp [*]
            clear HS HBk HCN 
            go_wp2_with (go_at_call 6; refine (HW.out _ rfl).mono ?_; rintro e w9 ⟨rfl, hw⟩; obtain rfl := hw.symm; clear hw)
            exact ⟨⟨k + 1, z, false, hlt, by simp, by simp, rfl, HX2, (HT.out.symm : false = ftB rl M (k + 1)), HA2, by first | rfl | trivial⟩, by simp [intOf]; omega⟩
          · have HBk : Hid (ftB rl M k = true) := HB.out.symm
            clear HB
            by_cases e1 : y = m
            · by_cases e2 : k < M - 1
              · by_cases e4 : m % 2 = 0
                · skip
                  have i1 : ((y : Int) == (m : Int)) = true := by simp; omega
                  have i2 : (k : Int) < (M : Int) - 1 := by omega
                  have i5 : ((k : Int) == (M : Int) - 1) = false := by simp; omega
                  have i4 : ((m : Int).tmod 2 == 0) = true := by rw [Int.tmod_eq_emod_of_nonneg (by omega)]; simp; omega
                  have i6 : ((m : Int) % 2 == 0) = true := by simp; omega
                  have HT : Hid (ftB rl M (k + 1) = true) := by show _ = _; rw [HS.out, HBk.out, HCN.out]; simp [*]
                  clear HS HBk HCN e1 e2 e4
                  go_wp2_with (go_at_call 6; refine (HW.out _ rfl).mono ?_; rintro e w9 ⟨rfl, hw⟩; obtain rfl := hw.symm; clear hw)
                  exact ⟨⟨k + 1, z, true, hlt, by simp, by simp, rfl, HX2, (HT.out.symm : true = ftB rl M (k + 1)), HA2, by first | rfl | trivial⟩, by simp [intOf]; omega⟩
                · by_cases e3 : m = 1
                  · have e5 : ¬ k = M - 1 := by omega
                    have i1 : ((y : Int) == (m : Int)) = true := by simp; omega
                    have i2 : (k : Int) < (M : Int) - 1 := by omega
                    have i5 : ((k : Int) == (M : Int) - 1) = false := by simp; omega
                    have i3 : ((m : Int) == 1) = true := by simp; omega
                    have i4 : ((m : Int).tmod 2 == 0) = false := by rw [Int.tmod_eq_emod_of_nonneg (by omega)]; simp; omega
                    have i6 : ((m : Int) % 2 == 0) = false := by simp; omega
                    have HT : Hid (ftB rl M (k + 1) = false) := by show _ = _; rw [HS.out, HBk.out, HCN.out]; simp [*]
                    clear HS HBk HCN e1 e2 e4 e3 e5
                    go_wp2_with (go_at_call 6; refine (HW.out _ rfl).mono ?_; rintro e w9 ⟨rfl, hw⟩; obtain rfl := hw.symm; clear hw)
                    exact ⟨⟨k + 1, z, false, hlt, by simp, by simp, rfl, HX2, (HT.out.symm : false = ftB rl M (k + 1)), HA2, by first | rfl | trivial⟩, by simp [intOf]; omega⟩
                  · skip
                    have i1 : ((y : Int) == (m : Int)) = true := by simp; omega
                    have i2 : (k : Int) < (M : Int) - 1 := by omega
                    have i5 : ((k : Int) == (M : Int) - 1) = false := by simp; omega
                    have i3 : ((m : Int) == 1) = false := by simp; omega
                    have i4 : ((m : Int).tmod 2 == 0) = false := by rw [Int.tmod_eq_emod_of_nonneg (by omega)]; simp; omega
                    have i6 : ((m : Int) % 2 == 0) = false := by simp; omega
                    have HT : Hid (ftB rl M (k + 1) = false) := by show _ = _; rw [HS.out, HBk.out, HCN.out]; simp [*]
                    clear HS HBk HCN e1 e2 e4 e3
                    go_wp2_with (go_at_call 6; refine (HW.out _ rfl).mono ?_; rintro e w9 ⟨rfl, hw⟩; obtain rfl := hw.symm; clear hw)
                    exact ⟨⟨k + 1, z, false, hlt, by simp, by simp, rfl, HX2, (HT.out.symm : false = ftB rl M (k + 1)), HA2, by first | rfl | trivial⟩, by simp [intOf]; omega⟩
              · by_cases e3 : m = 1
                · have e4 : ¬ m % 2 = 0 := by omega
                  have e5 : k = M - 1 := by omega
                  have i1 : ((y : Int) == (m : Int)) = true := by simp; omega
                  have i2 : ¬ (k : Int) < (M : Int) - 1 := by omega
                  have i5 : ((k : Int) == (M : Int) - 1) = true := by simp; omega
                  have i3 : ((m : Int) == 1) = true := by simp; omega
                  have i4 : ((m : Int).tmod 2 == 0) = false := by rw [Int.tmod_eq_emod_of_nonneg (by omega)]; simp; omega
                  have i6 : ((m : Int) % 2 == 0) = false := by simp; omega
                  have HT : Hid (ftB rl M (k + 1) = true) := by show _ = _; rw [HS.out, HBk.out, HCN.out]; simp [*]
                  clear HS HBk HCN e1 e2 e4 e3 e5
                  go_wp2_with (go_at_call 6; refine (HW.out _ rfl).mono ?_; rintro e w9 ⟨rfl, hw⟩; obtain rfl := hw.symm; clear hw)
                  exact ⟨⟨k + 1, z, true, hlt, by simp, by simp, rfl, HX2, (HT.out.symm : true = ftB rl M (k + 1)), HA2, by first | rfl | trivial⟩, by simp [intOf]; omega⟩
                · skip
                  have i1 : ((y : Int) == (m : Int)) = true := by simp; omega
                  have i2 : ¬ (k : Int) < (M : Int) - 1 := by omega
                  have i5 : ((k : Int) == (M : Int) - 1) = true := by simp; omega
                  have i3 : ((m : Int) == 1) = false := by simp; omega
                  have HT : Hid (ftB rl M (k + 1) = false) := by show _ = _; rw [HS.out, HBk.out, HCN.out]; simp [*]
                  clear HS HBk HCN e1 e2 e3
                  go_wp2_with (go_at_call 6; refine (HW.out _ rfl).mono ?_; rintro e w9 ⟨rfl, hw⟩; obtain rfl := hw.symm; clear hw)
                  exact ⟨⟨k + 1, z, false, hlt, by simp, by simp, rfl, HX2, (HT.out.symm : false = ftB rl M (k + 1)), HA2, by first | rfl | trivial⟩, by simp [intOf]; omega⟩
            · skip
              have i1 : ((y : Int) == (m : Int)) = false := by simp; omega
              have HT : Hid (ftB rl M (k + 1) = false) := by show _ = _; rw [HS.out, HBk.out, HCN.out]; simp [*]
              clear HS HBk HCN e1
              go_wp2_with (go_at_call 6; refine (HW.out _ rfl).mono ?_; rintro e w9 ⟨rfl, hw⟩; obtain rfl := hw.symm; clear hw)
              exact ⟨⟨k + 1, z, false, hlt, by simp, by simp, rfl, HX2, (HT.out.symm : false = ftB rl M (k + 1)), HA2, by first | rfl | trivial⟩, by simp [intOf]; omega⟩
    · obtain rfl : k = M := by omega
      have k1 : ¬ (k : Int) < (k : Int) := by omega
      clear HX
      have HPI : Hid ((k : Int) - 1 = (P : Int)) := by have := HPP.out; show _ = _; omega
      by_cases hout : i < 0 ∨ (rl 0 : Int) ≤ i
      · have HQ : Hid (Calls Try.prog 12 #[.slice (some ⟨b, off, none⟩) k cap, .int .i64 i] w1 fun e w' => e = .returned (.tuple #[.slice none 0 0, .int .i64 4]) ∧ w' = w1) := HP1.out w1 HD.out hout
        have z0 : ((k : Int) == 0) = false := by simp; omega
        generalize rl 0 = x at d0 hout
        by_cases hneg : i < 0
        · clear hout
          go_wp2_with (go_at_call 12; refine HQ.out.mono ?_; rintro e w9 ⟨rfl, hw⟩; obtain rfl := hw.symm; clear hw)
          go_ret
          exact ⟨rfl, HD.out⟩
        · have h2 : (x : Int) ≤ i := by omega
          clear hout
          go_wp2_with (go_at_call 12; refine HQ.out.mono ?_; rintro e w9 ⟨rfl, hw⟩; obtain rfl := hw.symm; clear hw)
          go_ret
          exact ⟨rfl, HD.out⟩
      · obtain ⟨j, rfl⟩ : ∃ j : Nat, i = (j : Int) := ⟨i.toNat, by omega⟩
        have hj : j < rl 0 := by omega
        have n1 : ¬ (j : Int) < 0 := by omega
        have n2 : ¬ (rl 0 : Int) ≤ (j : Int) := by omega
        have z0 : ((k : Int) == 0) = false := by simp; omega
        clear hout
        cases bb
        · have HQ : Hid (Calls Try.prog 12 #[.slice (some ⟨b, off, none⟩) k cap, .int .i64 (j : Int)] w1 fun e w' => e = .returned (.tuple #[.slice none 0 0, .int .i64 6]) ∧ w' = w1) := HP2.out w1 j HD.out hj HA.out HB.out.symm
          generalize rl 0 = x at d0 n2
          go_wp2_with (go_at_call 12; refine HQ.out.mono ?_; rintro e w9 ⟨rfl, hw⟩; obtain rfl := hw.symm; clear hw)
          go_ret
          exact ⟨rfl, HD.out⟩
        · have HQ : Hid (Calls Try.prog 12 #[.slice (some ⟨b, off, none⟩) k cap, .int .i64 (j : Int)] w1 fun e w' => ∃ b', e = .returned (.tuple #[.slice (some ⟨b', 0, none⟩) P P, .int .i64 0]) ∧ w'.rowIs b' 9 P (fun k => .string (F k (sib j k))) ∧ (∀ k, k < P → sib j k < rl k) ∧ Below w1.heap.size w1 w') := HP3.out w1 j HD.out hj HA.out HB.out.symm
          have hjl : j < 9223372036854775808 := by have := HA.out 0 (by omega); omega
          have hpi := HPI.out
          generalize hrl0 : rl 0 = x at d0 n2
          clear hrl0
          go_wp2_with (go_at_call 12; refine HQ.out.mono ?_; rintro e w2 ⟨b', rfl, hr2, hs2, hb2⟩; have HR2 : Hid (w2.rowIs b' 9 P (fun k => .string (F k (sib j k)))) := hr2; have HS2 : Hid (∀ k, k < P → sib j k < rl k) := hs2; have HD2 : Hid (Below w1.heap.size w1 w2) := hb2; have f0 := keepc hb2 d0; clear hr2 hs2 hb2)
          have HPK : Hid (P < k) := (by have := HPP.out; omega : P < k)
          have HP8 : Hid (P ≤ 8) := (by have := HPP.out; omega : P ≤ 8)
          clear hpi n1 n2 z0 d0 f0 HQ
          go_loopw [1, 10] (fun v u wr => ∃ (q y : Nat), q ≤ P ∧ u = .int .i64 q ∧ v = .int .i64 (y : Int) ∧ Hid (y = j / 2 ^ q) ∧ Hid (Below w2.heap.size w2 wr)) (fun _ u _ => P - (intOf u).toNat)
          case atStart => exact ⟨0, j, Nat.zero_le _, rfl, rfl, (by show j = j / 2 ^ 0; rw [Nat.pow_zero, Nat.div_one]), Below.refl _ _⟩
          case round =>
            obtain ⟨q, y, hq, rfl, rfl, HY, HE⟩ := hrel
            by_cases hql : q < P
            · have r1 : (q : Int) < (P : Int) := by omega
              have r0 : (0 : Int) ≤ (q : Int) := by omega
              have hpk := HPK.out
              have r2 : (q : Int) < (k : Int) := by omega
              obtain ⟨b1, o1, e1, _, c1⟩ := HG.out.top q (by omega)
              obtain ⟨rfl, rfl⟩ : b = b1 ∧ off = o1 := by injection e1 with e; injection e with h1 h2; exact ⟨h1, h2⟩
              have hsl := HS2.out q hql
              obtain ⟨b3, o3, e3, _, c3⟩ := (HG.out.row q (by omega)).cells _ hsl
              have d1 := keepc HE.out (keepc HD2.out (keepc HD.out c1))
              have d3 := keepc HE.out (keepc HD2.out (keepc HD.out c3))
              rw [e3] at d1
              have d4 := (HR2.out.of_block (HE.out.block _ HR2.out.lt)).cell hql
              have hx : bits .xor .i64 (y : Int) 1 = ((sib j q : Nat) : Int) := by
                have := sib_int j q hjl
                rw [shr_nat, ← HY.out] at this
                exact this
              have yl : y < 9223372036854775808 := by rw [HY.out]; exact Nat.lt_of_le_of_lt (Nat.div_le_self _ _) hjl
              have HY2 : Hid (y / 2 = j / 2 ^ (q + 1)) := by show _ = _; rw [HY.out, Nat.pow_succ, Nat.div_div_eq_div_mul]
              have q1 : (y : Int).tdiv 2 = ((y / 2 : Nat) : Int) := by rw [Int.tdiv_eq_ediv_of_nonneg (by omega)]; omega
              have q2 : (y : Int) / 2 = ((y / 2 : Nat) : Int) := by omega
              clear e1 e3 c1 c3 hpk
              generalize F q (sib j q) = c at d3 d4
              generalize sib j q = t at hsl d3 hx
              generalize rl q = m2 at hsl d1
              generalize rc q = mc at d1
              generalize y / 2 = y2 at HY2 q1 q2
              have t1 : (t : Int) < (m2 : Int) := by omega
              have t0 : (0 : Int) ≤ (t : Int) := by omega
              go_wp2
              go_region
              go_wp2
              exact ⟨⟨q + 1, y2, hql, by simp, rfl, HY2, HE.out.drew⟩, by simp [intOf]; omega⟩
            · obtain rfl : q = P := by omega
              have r1 : ¬ (q : Int) < (q : Int) := by omega
              go_wp2
              go_ret
              exact ⟨rfl, (HD.out.trans (HD2.out.mono HD.out.size)).trans (HE.out.mono (Nat.le_trans HD.out.size HD2.out.size))⟩
set_option maxHeartbeats 1000000 in
set_option maxRecDepth 100000 in
theorem mr_many (a : Option Addr) (M cap : Nat) (i : Int) (hM : 8 < M) : Ret 4 #[.slice a M cap, .int .i64 i] (.bool true) := by
  intro W
  have g1 : (8 : Int) < (M : Int) := by omega
  go_enter Try.func4, Try.ntmps4
  go_wp2_with (go_at_call 8; refine (awake12.go _).mono ?_; rintro e w1 ⟨rfl, hb1⟩)
  go_ret
  exact ⟨rfl, hb1⟩
set_option maxHeartbeats 1000000 in
set_option maxRecDepth 100000 in
theorem mr_zero (a : Option Addr) (cap : Nat) (i : Int) : Ret 4 #[.slice a 0 cap, .int .i64 i] (.bool true) := by
  intro W
  have HQ : Hid (Same 12 #[.slice a 0 cap, .int .i64 i] (.tuple #[.slice none 0 0, .int .i64 4])) := path_empty a cap i
  go_enter Try.func4, Try.ntmps4
  go_wp2_with (go_at_call 8; refine (awake12.go _).mono ?_; rintro e w1 ⟨rfl, hb1⟩)
  refine wp_loop_rounds 1 ?_
  rw [rounds_succ]
  go_wp2_with (go_at_call 12; refine (HQ.out.go _).mono ?_; rintro e w9 ⟨rfl, hw⟩; obtain rfl := hw.symm; clear hw)
  go_ret
  exact ⟨rfl, hb1⟩
theorem mr_any (a : Option Addr) (M cap : Nat) (i : Int) (ra : Nat → Option Addr) (rc : Nat → Nat) (ss : Nat → List ByteArray) (hcap : M ≤ cap)
    (W : World) (hm : ∀ k, k < M → (ss k).length ≤ maxLen ∧ StrRow W (ra k) (ss k)) (ht : ∀ k, k < M → ∃ b off : Nat, a = some ⟨b, off, none⟩ ∧ b < W.heap.size ∧ W.cell? ⟨b, off + k, none⟩ = some (.slice (ra k) (ss k).length (rc k))) :
    Calls Try.prog 4 #[.slice a M cap, .int .i64 i] W fun e w' => e = .returned (.bool true) ∧ Below W.heap.size W w' := by
  by_cases h8 : 8 < M
  · exact mr_many a M cap i h8 W
  rcases M with _ | N
  · exact mr_zero a cap i W
  have hG : Gr W a (N + 1) ra (fun k => (ss k).length) rc (fun k i => (ss k).getD i ByteArray.empty) := ⟨ht, fun k hk => ⟨fun i hi => by
    rcases (hm k hk).2 with h0 | ⟨b, off, h1, h2, h3⟩
    · rw [h0] at hi; simp at hi
    · exact ⟨b, off, h1, h2, h3 i hi⟩⟩⟩
  obtain ⟨b, off, rfl, _, _⟩ := ht 0 (by omega)
  refine mr_core b off (N + 1) N cap i ra rc ss _ _ (by omega) (by omega) rfl (fun _ => rfl) W hm hG ?_ ?_ ?_
  · exact fun w hb hi => path_none _ N cap i ra _ rc _ hi w (hG.below hb)
  · intro w j hb hj hl hf
    rw [ft_hv] at hf
    exact path_size _ N cap j ra _ rc _ hj hcap (by omega) (fun k hk => Nat.le_trans (hl k (by omega)) (by decide)) hf w (hG.below hb)
  · intro w j hb hj hl hf
    rw [ft_hv] at hf
    have h1 := (Bool.and_eq_true _ _).mp hf
    have h2 : (ss N).length = 1 := of_decide_eq_true h1.2
    refine (path_ok _ N cap j ra _ rc _ hj hcap (by omega) (fun k hk => Nat.le_trans (hl k (by omega)) (by decide)) h1.1 h2 w (hG.below hb)).mono ?_
    rintro e w' ⟨b', rfl, _, hr, hb'⟩
    exact ⟨b', rfl, hr, fun k hk => sib_in h1.1 h2 hj hk, hb'⟩
end Go.Proofs.Ytfepgoddoohpbaa
