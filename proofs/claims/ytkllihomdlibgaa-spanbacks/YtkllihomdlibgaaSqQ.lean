/- The walk of steeplelaw04.SpanTurns over the seat's translation. -/
import Derived.Test.YtkllihomdlibgaaSqP
namespace Go.Proofs.Ytkllihomdlibgaa
open Go.RowKit
open Cb Rg Sq

theorem hs_ext {x y : Nat × Nat} (hx : lt2 x) (hy : lt2 y) (h : ∀ b, b < 128 → hs x b = hs y b) : x = y := by
  have e := hs_none (lt_xa hx hy) fun b hb => by rw [hs_xa, h b hb]; simp
  have := xa_back x y
  rw [e, xa_zero] at this
  exact this
theorem bx_pick (c : Nat → Bool) (b : Nat) : ∀ n, bx n (fun v => c v && decide (b = v)) = (decide (b < n) && c b)
  | 0 => by simp [bx]
  | n + 1 => by
    unfold bx
    rw [bx_pick c b n]
    by_cases h : b = n
    · subst h; simp
    · by_cases h2 : b < n
      · simp [h, h2, show b < n + 1 by omega]
      · simp [h, h2, show ¬ b < n + 1 by omega]
theorem bx_congr {f g : Nat → Bool} : ∀ n, (∀ i, i < n → f i = g i) → bx n f = bx n g
  | 0, _ => rfl
  | n + 1, h => by unfold bx; rw [bx_congr n (fun i hi => h i (by omega)), h n (by omega)]
/-- A sum of bits has these bits. -/
theorem hs_bits (c : Nat → Bool) (n b : Nat) (hn : n ≤ 128) (hb : b < 128) : hs (xs n fun v => sl (c v) (bv (v : Int))) b = (decide (b < n) && c b) := by
  rw [hs_xs, bx_congr n (g := fun v => c v && decide (b = v)) fun v hv => ?_, bx_pick]
  rw [hs_sl]
  congr 1
  exact bv_has v b (by omega) hb
theorem hs_tr (l : List (Nat × Nat)) (M c b : Nat) (hM : M ≤ 128) (hb : b < 128) : hs (tr l M c) b = (decide (b < M) && hs (el l b) c) := hs_bits (fun v => hs (el l v) c) M b hM hb
theorem tuE_zero {l : List (Nat × Nat)} {n : Int} (h : tuE l n = 0) : ∃ N : Nat, n = (N : Int) ∧ N ≤ 128 ∧ l.length ≤ 128 ∧ fitL l N = true := by
  unfold tuE at h
  split at h
  · cases h
  · rename_i k
    split at h
    · rename_i k2
      exact ⟨n.toNat, by omega, by omega, by omega, k2⟩
    · cases h
/-- What is turned twice is as it was. -/
theorem tu_twice {l : List (Nat × Nat)} (hl : ltE l) {n : Int} (h : tuE l n = 0) : tuE (tuL l n) (l.length : Int) = 0 ∧ tuL (tuL l n) (l.length : Int) = l := by
  obtain ⟨N, rfl, hN, hM, hf⟩ := tuE_zero h
  have e2 : tuL l (N : Int) = trm l l.length N := by unfold tuL; rw [h, Int.toNat_natCast]; rfl
  have hfit : fitL (trm l l.length N) l.length = true := by
    rw [fitL_iff]
    intro e he
    obtain ⟨c, hc, rfl⟩ := List.mem_map.1 he
    have lt := lt_tr l l.length c
    by_cases h0 : tr l l.length c = (0, 0)
    · rw [h0]; exact Nat.zero_le _
    · have h1 := hs_ld lt h0
      rw [hs_tr l l.length c _ hM (ld_lt lt h0)] at h1
      rw [lng_ld lt h0]
      simp at h1
      omega
  have e3 : tuE (trm l l.length N) (l.length : Int) = 0 := by
    unfold tuE
    rw [trm_len, if_neg (by omega), Int.toNat_natCast, hfit, if_pos rfl]
  rw [e2]
  refine ⟨e3, ?_⟩
  unfold tuL
  rw [e3, if_pos rfl, trm_len, Int.toNat_natCast]
  refine list_ext (trm_len _ _ _) fun i hi => ?_
  rw [trm_len] at hi
  rw [trm_at _ _ _ hi]
  refine hs_ext (lt_tr _ _ _) (ltE_el hl i) fun b hb => ?_
  rw [hs_tr _ N i b hN hb]
  by_cases hbN : b < N
  · rw [trm_at _ _ _ hbN, hs_tr l l.length b i hM (by omega)]
    simp [hbN, hi]
  · have := (fitL_iff _ _).1 hf _ (el_lt hi)
    rw [hs_long (el l i) (ltE_el hl i) b (by omega)]
    simp [hbN]
set_option maxHeartbeats 16000000 in
set_option maxRecDepth 100000 in
theorem sts_any (s0 : Option Addr) (cap0 : Nat) (l : List (Nat × Nat)) (hl : ltE l) (n : Int) (W : World) (h0 : ERow W s0 l) :
    Calls Try.prog 8 #[.slice s0 l.length cap0, .int .i64 n] W fun e w' => e = .returned (.bool true) ∧ Below W.heap.size W w' := by
  have HA := hidT awake04
  by_cases c0 : 140 < l.length
  · have k0 : (140 : Int) < (l.length : Int) := by omega
    clear c0 h0 hl
    go_enter Try.func8, Try.ntmps8
    go_wp2_with (go_at_call 9; refine (HA.out.go _).mono ?_; rintro e w4 ⟨rfl, hb4⟩; have D4 := hidT hb4; clear hb4)
    go_ret
    exact ⟨rfl, D4.out⟩
  have k0 : ¬ (140 : Int) < (l.length : Int) := by omega
  have H1 : Hid (∀ w, Below W.heap.size W w → Calls Try.prog 11 #[.slice s0 l.length cap0] w fun e w' => ∃ a c, e = .returned (.slice a l.length c) ∧ ERow w' a l ∧ Below w.heap.size w w') := fun w hw => (sref_own s0 cap0 l (by omega) w (h0.below hw)).mono fun e w' ⟨a, c, e1, o, e3⟩ => by
    obtain ⟨a', c', e', r⟩ := own_row o
    injection e' with e' _ _; subst e'
    exact ⟨a, c, e1, r, e3⟩
  have H2 := hidT (turn_all s0 cap0 n l hl W h0)
  have H3 : Hid (∀ w a c, ERow w a l → Calls Try.prog 33 #[.slice a l.length c, .int .i64 n] w fun e w' => ∃ s cp, e = .returned (.tuple #[.slice s (tuL l n).length cp, .int .i64 (tuE l n)]) ∧ ERow w' s (tuL l n) ∧ Below w.heap.size w w') := fun w a c h => rturn_all a c n l hl w h
  have H4 : Hid (tuE l n = 0 → ∀ w a c, ERow w a (tuL l n) → Calls Try.prog 32 #[.slice a (tuL l n).length c, .int .i64 (l.length : Int)] w fun e w' => ∃ s cp, e = .returned (.tuple #[.slice s l.length cp, .int .i64 0]) ∧ ERow w' s l ∧ Below w.heap.size w w') := fun h w a c hr => by
    have := turn_all a c (l.length : Int) (tuL l n) (lt_tuL l n) w hr
    rwa [(tu_twice hl h).1, (tu_twice hl h).2] at this
  have hln : (tuL l n).length ≤ 128 := by
    unfold tuL; split
    · rename_i k
      obtain ⟨N, rfl, hN, _⟩ := tuE_zero k
      rw [trm_len, Int.toNat_natCast]; exact hN
    · exact Nat.zero_le _
  clear h0 hl c0
  generalize tuE l n = E at *
  generalize tuL l n = A at *
  go_enter Try.func8, Try.ntmps8
  go_wp2_with fail
  refine H2.out.mono ?_
  rintro e w1 ⟨a1, c1, rfl, r1, hb1⟩
  have K1 : Hid (Below W.heap.size W w1 ∧ ERow w1 a1 A) := ⟨hb1, r1⟩
  clear r1 hb1 H2
  go_wp2_with fail
  refine (H1.out _ K1.out.1).mono ?_
  rintro e w2 ⟨a2, c2, rfl, r2, hb2⟩
  have K2 : Hid (Below W.heap.size W w2 ∧ ERow w2 a1 A ∧ ERow w2 a2 l) := ⟨K1.out.1.trans (hb2.mono K1.out.1.size), K1.out.2.below hb2, r2⟩
  clear K1 r2 hb2
  go_wp2_with fail
  refine (H3.out _ _ _ K2.out.2.2).mono ?_
  rintro e w3 ⟨a3, c3, rfl, r3, hb3⟩
  have K3 : Hid (Below W.heap.size W w3 ∧ ERow w3 a1 A ∧ ERow w3 a3 A) := ⟨K2.out.1.trans (hb3.mono K2.out.1.size), K2.out.2.1.below hb3, r3⟩
  clear K2 r3 hb3 H3
  go_wp2_with fail
  refine (same_rows _ _ _ _ A (by omega) _ K3.out.2.1 K3.out.2.2).mono ?_
  rintro e w4 ⟨rfl, hb4⟩
  have K4 : Hid (Below W.heap.size W w4 ∧ ERow w4 a1 A) := ⟨K3.out.1.trans (hb4.mono K3.out.1.size), K3.out.2.1.below hb4⟩
  clear K3 hb4
  by_cases hE : E = 0
  · subst hE
    have H5 := hidT (H4.out rfl)
    clear H4
    go_wp2_with fail
    refine (H5.out _ _ _ K4.out.2).mono ?_
    rintro e w5 ⟨a5, c5, rfl, r5, hb5⟩
    have K5 : Hid (Below W.heap.size W w5 ∧ ERow w5 a5 l) := ⟨K4.out.1.trans (hb5.mono K4.out.1.size), r5⟩
    clear K4 r5 hb5 H5
    go_wp2_with fail
    refine (HA.out.go _).mono ?_
    rintro e w6 ⟨rfl, hb6⟩
    have K6 : Hid (Below W.heap.size W w6 ∧ ERow w6 a5 l) := ⟨K5.out.1.trans (hb6.mono K5.out.1.size), K5.out.2.below hb6⟩
    clear K5 hb6
    go_wp2_with fail
    refine (H1.out _ K6.out.1).mono ?_
    rintro e w7 ⟨a7, c7, rfl, r7, hb7⟩
    have K7 : Hid (Below W.heap.size W w7 ∧ ERow w7 a5 l ∧ ERow w7 a7 l) := ⟨K6.out.1.trans (hb7.mono K6.out.1.size), K6.out.2.below hb7, r7⟩
    clear K6 r7 hb7
    go_wp2_with fail
    refine (same_rows _ _ _ _ l (by omega) _ K7.out.2.1 K7.out.2.2).mono ?_
    rintro e w8 ⟨rfl, hb8⟩
    have K8 := hidT (K7.out.1.trans (hb8.mono K7.out.1.size))
    clear K7 hb8
    go_wp2
    go_ret
    exact ⟨rfl, K8.out⟩
  · clear H4
    go_wp2_with (go_at_call 9; refine (HA.out.go _).mono ?_; rintro e w5 ⟨rfl, hb5⟩; have D5 := hidT (K4.out.1.trans (hb5.mono K4.out.1.size)); clear hb5)
    go_ret
    exact ⟨rfl, D5.out⟩
end Go.Proofs.Ytkllihomdlibgaa
