/- The contracts of merkle's Path and of the law's awake over the seat's translation. -/
import Derived.Test.YthmjbdmnlkbllaaGreatMkD
namespace Go.Proofs.YthmjbdmnlkbllaaGreat
open Go.RowKit

/-- The place next to the one on the way up, in the row k. -/
def sib (i k : Nat) : Nat := (i / 2 ^ k) ^^^ 1
theorem xor_one (x : Nat) : x ^^^ 1 = if x % 2 = 0 then x + 1 else x - 1 := by
  have e1 : (x ^^^ 1) / 2 = x / 2 := by rw [Nat.xor_div_two]; simp
  have e2 : (x ^^^ 1) % 2 = 1 ↔ ¬ (x % 2 = 1) := by rw [Nat.xor_mod_two_eq_one]; simp
  have h1 := Nat.mod_lt (x ^^^ 1) (show 0 < 2 by decide)
  by_cases e : x % 2 = 0
  · rw [if_pos e]
    have := e2.2 (by omega)
    omega
  · rw [if_neg e]
    have : ¬ (x ^^^ 1) % 2 = 1 := fun h => e2.1 h (by omega)
    omega
theorem sib_lt {x m : Nat} (h : x < 2 * m) : x ^^^ 1 < 2 * m := by
  rw [xor_one]
  split <;> omega
theorem half_pow {rl : Nat → Nat} : ∀ N k, k ≤ N → hvB rl N = true → rl N = 1 → rl k = 2 ^ (N - k)
  | 0, k, hk, _, h1 => by obtain rfl : k = 0 := by omega
                          simpa using h1
  | N + 1, k, hk, hv, h1 => by
    rw [hvB_succ] at hv
    simp at hv
    by_cases e : k = N + 1
    · subst e; simpa using h1
    · have h2 : hvB (fun j => rl j / 2) N = true ∨ True := .inr trivial
      have hN : rl N = 2 := by omega
      have key : ∀ j, j ≤ N → rl (N - j) = 2 ^ (j + 1) := fun j => by
        induction j with
        | zero => intro _; simpa using hN
        | succ j ih =>
          intro hj
          have h3 := ih (by omega)
          have h4 := hvB_le hv.1 (show (N - (j + 1)) + 1 ≤ N by omega)
          rw [hvB_succ] at h4
          simp at h4
          have h5 := h4.2
          rw [show N - (j + 1) + 1 = N - j by omega, h3] at h5
          rw [h5, Nat.pow_succ 2 (j + 1), Nat.mul_comm]
      have := key (N - k) (by omega)
      rw [show N - (N - k) = k by omega] at this
      rw [this, show N - k + 1 = N + 1 - k by omega]
theorem sib_in {rl : Nat → Nat} {N i k : Nat} (hv : hvB rl N = true) (h1 : rl N = 1) (hi : i < rl 0) (hk : k < N) : sib i k < rl k := by
  have e0 := half_pow N 0 (by omega) hv h1
  have ek := half_pow N k (by omega) hv h1
  have es := half_pow N (k + 1) (by omega) hv h1
  have hd : i / 2 ^ k < rl k := by
    rw [ek]
    rw [Nat.div_lt_iff_lt_mul (Nat.two_pow_pos k), ← Nat.pow_add, show N - k + k = N - 0 by omega, ← e0]
    exact hi
  have h2 : rl k = 2 * rl (k + 1) := by rw [ek, es, show N - k = (N - (k + 1)) + 1 by omega, Nat.pow_succ, Nat.mul_comm]
  rw [h2] at hd ⊢
  exact sib_lt hd
theorem shr_nat (i k : Nat) : (i : Int) / 2 ^ k = ((i / 2 ^ k : Nat) : Int) := by rw [Int.natCast_ediv, Int.natCast_pow]; rfl
theorem sib_int (i k : Nat) (hi : i < 9223372036854775808) : bits .xor .i64 ((i : Int) / 2 ^ k) 1 = ((sib i k : Nat) : Int) := by
  rw [shr_nat]
  exact i64_xor_nat _ 1 (Nat.lt_of_le_of_lt (Nat.div_le_self _ _) hi) (by decide)
theorem path_empty (a : Option Addr) (cap : Nat) (i : Int) : Same 15 #[.slice a 0 cap, .int .i64 i] (.tuple #[.slice none 0 0, .int .i64 4]) := by
  intro W
  go_enter Tryz.func15, Tryz.ntmps15
  go_wp2
  go_ret2
  exact ⟨rfl, rfl⟩
theorem path_none (a : Option Addr) (N cap : Nat) (i : Int) (ra : Nat → Option Addr) (rl rc : Nat → Nat) (F : Nat → Nat → ByteArray) (hi : i < 0 ∨ (rl 0 : Int) ≤ i) (W : World) (hG : Gr W a (N + 1) ra rl rc F) :
    Calls Tryz.prog 15 #[.slice a (N + 1) cap, .int .i64 i] W fun e w' => e = .returned (.tuple #[.slice none 0 0, .int .i64 4]) ∧ w' = W := by
  obtain ⟨b, off, rfl, _, c0⟩ := hG.top 0 (by omega)
  rw [Nat.add_zero] at c0
  clear hG
  by_cases h : i < 0
  · clear hi
    go_enter Tryz.func15, Tryz.ntmps15
    go_wp2
    go_ret2
    exact ⟨rfl, rfl⟩
  · have h2 : (rl 0 : Int) ≤ i := by omega
    have n1 : ¬ (N : Int) + 1 = 0 := by omega
    clear hi
    generalize rl 0 = x at *
    go_enter Tryz.func15, Tryz.ntmps15
    go_wp2
    go_ret2
    exact ⟨rfl, rfl⟩
theorem path_size (a : Option Addr) (N cap : Nat) (i : Nat) (ra : Nat → Option Addr) (rl rc : Nat → Nat) (F : Nat → Nat → ByteArray) (hi : i < rl 0) (hN : N + 1 ≤ cap) (hNm : N ≤ 1000000) (hl : ∀ k, k ≤ N → rl k ≤ 1000000000) (hv : (hvB rl N && decide (rl N = 1)) = false) (W : World) (hG : Gr W a (N + 1) ra rl rc F) :
    Calls Tryz.prog 15 #[.slice a (N + 1) cap, .int .i64 (i : Int)] W fun e w' => e = .returned (.tuple #[.slice none 0 0, .int .i64 6]) ∧ w' = W := by
  obtain ⟨b, off, rfl, _, c0⟩ := hG.top 0 (by omega)
  rw [Nat.add_zero] at c0
  have HV : Hid (Calls Tryz.prog 32 #[.slice (some ⟨b, off, none⟩) (N + 1) cap] W fun e w' => e = .returned (.bool false) ∧ w' = W) := by
    have := halve_any b off N cap ra rl rc F hN hNm hl W hG
    rw [hv] at this
    exact this
  have h2 : ¬ (rl 0 : Int) ≤ (i : Int) := by omega
  have n1 : ¬ (N : Int) + 1 = 0 := by omega
  have n2 : ¬ (i : Int) < 0 := by omega
  clear hG hi hl hv
  generalize rl 0 = x at *
  go_enter Tryz.func15, Tryz.ntmps15
  go_wp2_with (go_at_call 32; refine HV.out.mono ?_; rintro e w1 ⟨rfl, rfl⟩)
  go_ret2
  exact ⟨rfl, rfl⟩
set_option maxHeartbeats 4000000 in
set_option maxRecDepth 100000 in
theorem path_ok (a : Option Addr) (N cap : Nat) (i : Nat) (ra : Nat → Option Addr) (rl rc : Nat → Nat) (F : Nat → Nat → ByteArray) (hi : i < rl 0) (hN : N + 1 ≤ cap) (hNm : N ≤ 60) (hl : ∀ k, k ≤ N → rl k ≤ 1000000000) (hv : hvB rl N = true) (h1 : rl N = 1) (W : World) (hG : Gr W a (N + 1) ra rl rc F) :
    Calls Tryz.prog 15 #[.slice a (N + 1) cap, .int .i64 (i : Int)] W fun e w' => ∃ b', e = .returned (.tuple #[.slice (some ⟨b', 0, none⟩) N N, .int .i64 0]) ∧ W.heap.size ≤ b' ∧ w'.rowIs b' 9 N (fun k => .string (F k (sib i k))) ∧ Below W.heap.size W w' := by
  obtain ⟨b, off, rfl, _, c0⟩ := hG.top 0 (by omega)
  rw [Nat.add_zero] at c0
  have HV : Hid (Calls Tryz.prog 32 #[.slice (some ⟨b, off, none⟩) (N + 1) cap] W fun e w' => e = .returned (.bool true) ∧ w' = W) := by
    have := halve_any b off N cap ra rl rc F hN (by omega) hl W hG
    rw [hv, h1] at this
    exact this
  have h2 : ¬ (rl 0 : Int) ≤ (i : Int) := by omega
  have n1 : ¬ (N : Int) + 1 = 0 := by omega
  have n2 : ¬ (i : Int) < 0 := by omega
  have HI : Hid (∀ k, k < N → sib i k < rl k) := fun k hk => sib_in hv h1 hi hk
  have hil : i < 9223372036854775808 := by have := hl 0 (by omega); omega
  have HG : Hid (Gr W (some ⟨b, off, none⟩) (N + 1) ra rl rc F) := hG
  have hmk := fun w => make_str w N (by omega)
  clear hG hi hl hv h1
  generalize rl 0 = x at *
  go_enter Tryz.func15, Tryz.ntmps15
  go_wp2_with (go_at_call 32; refine HV.out.mono ?_; rintro e w9 ⟨rfl, hw⟩; obtain rfl := hw.symm; clear hw)
  have R0 : Hid ((W.alloc (.cells (madeCells #[.string (ByteArray.mk #[])] N) 9)).rowIs W.heap.size 9 N (fun _ => .string (ByteArray.mk #[]))) := World.rowIs_made W _ N _
  have D0 : Hid (Below W.heap.size W (W.alloc (.cells (madeCells #[.string (ByteArray.mk #[])] N) 9))) := below_laid _ _
  generalize W.alloc (.cells (madeCells #[.string (ByteArray.mk #[])] N) 9) = w0 at *
  clear hmk c0 HV
  go_loopw [34] (fun u wr => ∃ (k : Nat) (o : Nat → Value), k ≤ N ∧ u = .int .i64 k ∧ Hid (wr.rowIs W.heap.size 9 N o) ∧ Hid (∀ p, p < k → o p = .string (F p (sib i p))) ∧ Hid (Below W.heap.size W wr)) (fun u _ => N - (intOf u).toNat)
  case atStart => exact ⟨0, _, Nat.zero_le _, rfl, R0, (fun p hp => by omega), D0⟩
  case round =>
    obtain ⟨k, o, hk, rfl, HR, HO, HD⟩ := hrel
    clear R0 D0
    by_cases hlt : k < N
    · have k1 : (k : Int) < (N : Int) := by omega
      obtain ⟨b1, o1, e1, _, c1⟩ := HG.out.top k (by omega)
      obtain ⟨rfl, rfl⟩ : b = b1 ∧ off = o1 := by injection e1 with e; injection e with h1 h2; exact ⟨h1, h2⟩
      have hs := HI.out k hlt
      obtain ⟨b3, o3, e3, _, c3⟩ := (HG.out.row k (by omega)).cells _ hs
      have d1 := keepc HD.out c1
      have d3 := keepc HD.out c3
      rw [e3] at d1
      have hx := sib_int i k hil
      have HE : Hid (F k (sib i k) = F k (sib i k)) := rfl
      generalize hc : F k (sib i k) = c at *
      have HC : Hid (F k (sib i k) = c) := hc
      clear e1 e3 c1 c3 hc HE
      generalize sib i k = q at hs d3 hx
      generalize rl k = m at *
      generalize rc k = mc at *
      have q1 : (q : Int) < (m : Int) := by omega
      have c0 := HR.out.cell hlt
      have z0 := HR.out.frozen k
      have k0 : (0 : Int) ≤ (k : Int) := by omega
      have q0 : (0 : Int) ≤ (q : Int) := by omega
      have k2 : (k : Int) < (N : Int) + 1 := by omega
      go_wp2
      go_region
      go_wp2
      refine ⟨⟨k + 1, _, hlt, by simp, HR.out.set k _, fun p hp => ?_, (HD.out.setCell (p := ⟨W.heap.size, k, none⟩) (Nat.le_refl _) _).drew⟩, by simp [intOf]; omega⟩
      by_cases e : p = k
      · rw [if_pos e, e, HC.out]
      · rw [if_neg e]; exact HO.out p (by omega)
    · have k1 : ¬ (k : Int) < (N : Int) := by omega
      obtain rfl : k = N := by omega
      go_wp2
      go_ret2
      exact ⟨_, rfl, Nat.le_refl _, HR.out.congr HO.out, HD.out⟩
end Go.Proofs.YthmjbdmnlkbllaaGreat
