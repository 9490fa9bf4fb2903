/- The contract of steepleref22.Check over the seat's translation. -/
import Derived.Test.YtejoombhcnldmaaCmH
import Derived.Deep.QuietTactic
import Derived.BigQuiet
namespace Go.Proofs.Ytejoombhcnldmaa
open Go.RowKit
open Cb
open Tw (pm)

theorem rtwoS (n : Nat) (hn : n ≤ 16) (W : World) : Calls Try.prog 26 #[.int .i64 (n : Int)] W fun e w' => e = .returned (.int .i64 ((2 ^ n : Nat) : Int)) ∧ w' = W := by
  go_enter Try.func26, Try.ntmps26
  go_wp2_with fail
  go_loopw [3, 4] (fun v u wr => ∃ j q : Nat, j ≤ n ∧ Hid (q = 2 ^ j) ∧ v = .int .i64 (q : Int) ∧ u = .int .i64 j ∧ W = wr) (fun _ u _ => n - (intOf u).toNat)
  case atStart => exact ⟨0, 1, Nat.zero_le _, (by rfl), rfl, rfl, rfl⟩
  case round =>
    obtain ⟨j, q, hj, HQ, rfl, rfl, rfl⟩ := hrel
    by_cases hlt : j < n
    · have hq : q ≤ 65536 := by rw [HQ.out]; exact Nat.pow_le_pow_right (by decide) (show j ≤ 16 by omega)
      have hw : IntKind.i64.wrap (2 * (q : Int)) = ((2 * q : Nat) : Int) := by rw [IntKind.wrap_i64]; omega
      go_wp2
      exact ⟨⟨j + 1, 2 * q, hlt, (by show _ = _; rw [HQ.out, Nat.pow_succ]; omega), by simp, by simp, by first | rfl | trivial⟩, by simp [intOf]; omega⟩
    · obtain rfl : j = n := by omega
      go_wp2
      go_ret
      exact ⟨by rw [← HQ.out]; rfl, rfl⟩
theorem rtwoU (k n : Nat) (hk : k ≤ 6) (hn : pw (k : Int) = n) (W : World) : Calls Try.prog 26 #[.int .i64 (k : Int)] W fun e w' => e = .returned (.int .i64 (n : Int)) ∧ w' = W := by
  have := rtwoS k (by omega) W
  unfold pw at hn
  rw [Int.toNat_natCast] at hn
  rw [hn] at this
  exact this
set_option maxHeartbeats 2000000 in
theorem rfitsS (k w s : Int) (W : World) : Calls Try.prog 41 #[.int .i64 k, .int .i64 w, .int .i64 s] W fun e w' => e = .returned (.bool (ftB k w s)) ∧ w' = W := by
  obtain ⟨z, hz⟩ : ∃ z, z = ftB k w s := ⟨_, rfl⟩
  rw [← hz]
  by_cases k0 : k < 0
  · have HZ : Hid (z = false) := by show _ = _; rw [hz]; exact decide_eq_false (by omega)
    clear hz
    go_enter Try.func41, Try.ntmps41
    go_wp2
    go_ret
    exact ⟨by rw [HZ.out]; rfl, rfl⟩
  · by_cases k3 : 3 < k
    · have HZ : Hid (z = false) := by show _ = _; rw [hz]; exact decide_eq_false (by omega)
      clear hz
      go_enter Try.func41, Try.ntmps41
      go_wp2
      go_ret
      exact ⟨by rw [HZ.out]; rfl, rfl⟩
    · by_cases w0 : w < 0
      · have HZ : Hid (z = false) := by show _ = _; rw [hz]; exact decide_eq_false (by omega)
        clear hz
        go_enter Try.func41, Try.ntmps41
        go_wp2
        go_ret
        exact ⟨by rw [HZ.out]; rfl, rfl⟩
      · by_cases w6 : 6 < w
        · have HZ : Hid (z = false) := by show _ = _; rw [hz]; exact decide_eq_false (by omega)
          clear hz
          go_enter Try.func41, Try.ntmps41
          go_wp2
          go_ret
          exact ⟨by rw [HZ.out]; rfl, rfl⟩
        · by_cases s0 : s < 0
          · have HZ : Hid (z = false) := by show _ = _; rw [hz]; exact decide_eq_false (by omega)
            clear hz
            go_enter Try.func41, Try.ntmps41
            go_wp2
            go_ret
            exact ⟨by rw [HZ.out]; rfl, rfl⟩
          · obtain ⟨q, rfl⟩ : ∃ q : Nat, w = (q : Int) := ⟨w.toNat, by omega⟩
            obtain ⟨n, hn, _, _, _⟩ := pw_nat q (by omega)
            have H2 := hidC (rtwoU q n (by omega) hn)
            have HZ : Hid (z = decide (s < (n : Int) ∧ (k = 0 → s = 0))) := by
              show _ = _
              rw [hz]
              unfold ftB
              rw [hn]
              exact decide_eq_decide.2 (by omega)
            clear hz hn
            go_enter Try.func41, Try.ntmps41
            go_wp2_with (go_at_call 26; refine (H2.out _).mono ?_; rintro e w1 ⟨rfl, rfl⟩)
            all_goals
              go_ret
              refine ⟨?_, rfl⟩
              rw [HZ.out]
              simp_all
              try (first | rfl | omega)
set_option maxHeartbeats 8000000 in
set_option maxRecDepth 100000 in
theorem rchk22 (c w : Int) (a : Option Addr) (cap : Nat) (l : List Stp) (h10 : l.length ≤ 100000) (W : World) (hr : ORow W a l) :
    Calls Try.prog 15 #[.int .i64 c, .int .i64 w, .slice a l.length cap] W fun e w' => e = .returned (.int .i64 (ckE c w l)) ∧ Below W.heap.size W w' := by
  have HR : Hid (ORow W a l) := hr
  clear hr
  by_cases hb : (0 ≤ c ∧ c ≤ 6) ∧ (0 ≤ w ∧ w ≤ 6)
  · have c0 : ¬ c < 0 := by omega
    have c6 : ¬ 6 < c := by omega
    have w0 : ¬ w < 0 := by omega
    have w6 : ¬ 6 < w := by omega
    by_cases hn : l.length ≤ 200
    · have hn' : ¬ 200 < (l.length : Int) := by omega
      obtain ⟨cn, rfl⟩ : ∃ n : Nat, c = (n : Int) := ⟨c.toNat, by omega⟩
      obtain ⟨P, hP⟩ : ∃ P, P = 2 ^ cn := ⟨_, rfl⟩
      have HTW := hidC (rtwoS cn (by omega))
      rw [← hP] at HTW
      have HE : Hid (ckE (cn : Int) w l = ckL P w l) := by show _ = _; unfold ckE; rw [if_pos hb, if_pos hn, Int.toNat_natCast, ← hP]
      clear hP hb hn
      go_enter Try.func15, Try.ntmps15
      go_wp2_with fail
      go_loopw [7] (fun u wr => ∃ j : Nat, j ≤ l.length ∧ u = .int .i64 j ∧ Hid (ckL P w l = ckL P w (l.drop j)) ∧ Hid (Below W.heap.size W wr)) (fun u _ => l.length - (intOf u).toNat)
      case atStart => exact ⟨0, Nat.zero_le _, rfl, (by rfl), Below.refl _ _⟩
      case round =>
        obtain ⟨j, hj, rfl, HT, HD⟩ := hrel
        by_cases hlt : j < l.length
        · obtain ⟨b, off, rfl, hb, d0, d1, d2, d3, d4⟩ := HR.out.cells j hlt
          have D0 := keepc HD.out d0
          have D1 := keepc HD.out d1
          have D2 := keepc HD.out d2
          have j1 : (j : Int) < (l.length : Int) := by omega
          have j0 : (0 : Int) ≤ (j : Int) := by omega
          have HS : Hid (ckL P w (l.drop j) = if ck1 P w (l.getD j zst) = 0 then ckL P w (l.drop (j + 1)) else ck1 P w (l.getD j zst)) := by show _ = _; rw [drop_st l j hlt]; rfl
          clear d0 d1 d2 d3 d4 hb HR
          generalize l.getD j zst = o at *
          obtain ⟨k, ki, s, v⟩ := o
          dsimp only at *
          have HK1 : Hid (ck1 P w ⟨k, ki, s, v⟩ = if 0 ≤ k ∧ k < (P : Int) then (if ftB ki w s = true then 0 else 1) else 4) := rfl
          have HFT := hidC (rfitsS ki w s)
          go_upto_region 8 with fail
          by_cases hk : k < 0
          · have hd : decide (k < 0) = true := decide_eq_true hk
            have HV : Hid (ckE (cn : Int) w l = 4) := by show _ = _; rw [HE.out, HT.out, HS.out, HK1.out, if_neg (show ¬ (0 ≤ k ∧ k < (P : Int)) by omega), if_neg (by decide)]
            clear HE HT HS HK1
            go_quiet (fail)
            go_wp2
            go_ret
            exact ⟨by rw [HV.out]; rfl, below_drewC HD.out _⟩
          · have hd : decide (k < 0) = false := decide_eq_false hk
            by_cases hk2 : (P : Int) ≤ k
            · have hd2 : decide ((P : Int) ≤ k) = true := decide_eq_true hk2
              have HV : Hid (ckE (cn : Int) w l = 4) := by show _ = _; rw [HE.out, HT.out, HS.out, HK1.out, if_neg (show ¬ (0 ≤ k ∧ k < (P : Int)) by omega), if_neg (by decide)]
              clear HE HT HS HK1
              go_quiet ((go_at_call 26; exact Calls.quiet_of_same (HTW.out _)))
              go_wp2
              go_ret
              exact ⟨by rw [HV.out]; rfl, below_drewC HD.out _⟩
            · have hd2 : decide ((P : Int) ≤ k) = false := decide_eq_false hk2
              rcases hF : ftB ki w s with _ | _
              · rw [hF] at HFT
                have HV : Hid (ckE (cn : Int) w l = 1) := by show _ = _; rw [HE.out, HT.out, HS.out, HK1.out, if_pos (show 0 ≤ k ∧ k < (P : Int) by omega), hF]; rfl
                clear HE HT HS HK1
                go_quiet ((go_at_call 26; exact Calls.quiet_of_same (HTW.out _)))
                go_upto_region 10 with fail
                have E1 : (wr.drewN nq).cell? ⟨b, off + j * 5 + 1, none⟩ = some (.int .i64 ki) := D1
                have E2 : (wr.drewN nq).cell? ⟨b, off + j * 5 + 2, none⟩ = some (.int .i64 s) := D2
                have HD2 : Hid (Below W.heap.size W (wr.drewN nq)) := below_drewC HD.out _
                clear D0 D1 D2 HD
                generalize wr.drewN nq = wd at *
                go_quiet ((go_at_call 41; exact Calls.quiet_of_same (HFT.out _)))
                go_wp2
                go_ret
                exact ⟨by rw [HV.out]; rfl, below_drewC HD2.out _⟩
              · rw [hF] at HFT
                have HV : Hid (ckL P w l = ckL P w (l.drop (j + 1))) := by show _ = _; rw [HT.out, HS.out, HK1.out, if_pos (show 0 ≤ k ∧ k < (P : Int) by omega), hF]; rfl
                clear HT HS HK1
                go_quiet ((go_at_call 26; exact Calls.quiet_of_same (HTW.out _)))
                go_upto_region 10 with fail
                have E1 : (wr.drewN nq).cell? ⟨b, off + j * 5 + 1, none⟩ = some (.int .i64 ki) := D1
                have E2 : (wr.drewN nq).cell? ⟨b, off + j * 5 + 2, none⟩ = some (.int .i64 s) := D2
                have HD2 : Hid (Below W.heap.size W (wr.drewN nq)) := below_drewC HD.out _
                clear D0 D1 D2 HD
                generalize wr.drewN nq = wd at *
                go_quiet ((go_at_call 41; exact Calls.quiet_of_same (HFT.out _)))
                go_wp2
                exact ⟨⟨j + 1, hlt, by simp, HV, below_drewC HD2.out _⟩, by simp [intOf]; omega⟩
        · obtain rfl : j = l.length := by omega
          have HV : Hid (ckE (cn : Int) w l = 0) := by show _ = _; rw [HE.out, HT.out, List.drop_of_length_le (Nat.le_refl _)]; rfl
          clear HE HT HR
          go_wp2
          go_ret
          exact ⟨by rw [HV.out]; rfl, HD.out⟩
    · have hn' : 200 < (l.length : Int) := by omega
      have HE : Hid (ckE c w l = 2) := by show _ = _; unfold ckE; rw [if_pos hb, if_neg hn]
      clear hb hn
      go_enter Try.func15, Try.ntmps15
      go_wp2
      go_ret
      exact ⟨by rw [HE.out]; rfl, Below.refl _ _⟩
  · have HE : Hid (ckE c w l = 1) := by show _ = _; unfold ckE; rw [if_neg hb]
    by_cases c0 : c < 0
    · clear hb
      go_enter Try.func15, Try.ntmps15
      go_wp2
      go_ret
      exact ⟨by rw [HE.out]; rfl, Below.refl _ _⟩
    · by_cases c6 : 6 < c
      · clear hb
        go_enter Try.func15, Try.ntmps15
        go_wp2
        go_ret
        exact ⟨by rw [HE.out]; rfl, Below.refl _ _⟩
      · by_cases w0 : w < 0
        · clear hb
          go_enter Try.func15, Try.ntmps15
          go_wp2
          go_ret
          exact ⟨by rw [HE.out]; rfl, Below.refl _ _⟩
        · have w6 : 6 < w := by omega
          clear hb
          go_enter Try.func15, Try.ntmps15
          go_wp2
          go_ret
          exact ⟨by rw [HE.out]; rfl, Below.refl _ _⟩
end Go.Proofs.Ytejoombhcnldmaa

/- The contract of steeplelaw22.Few over the seat's translation. -/
namespace Go.Proofs.Ytejoombhcnldmaa
open Go.RowKit
open Cb

def fwB (C w : Int) (n nz : Nat) : Prop := (n ≤ 12 ∨ (200 < n ∧ n ≤ 210)) ∧ (C ≤ 2 ∨ 6 < C) ∧ (w ≤ 3 ∨ 6 < w) ∧ nz ≤ 8
instance (C w : Int) (n nz : Nat) : Decidable (fwB C w n nz) := by unfold fwB; infer_instance
set_option maxHeartbeats 20000000 in
set_option maxRecDepth 100000 in
theorem few22 (C w : Int) (a z : Option Addr) (n nz cap zcap : Nat) (b : Nat × Nat) : Ret 9 #[.agg #[.int .i64 C, .int .i64 w, .slice a n cap, .slice z nz zcap, .int .u64 (b.1 : Int), .int .u64 (b.2 : Int)]] (.bool (decide (fwB C w n nz))) := by
  intro W
  obtain ⟨y, hy⟩ : ∃ y, y = decide (fwB C w n nz) := ⟨_, rfl⟩
  rw [← hy]
  by_cases n1 : (n : Int) ≤ 12
  · by_cases g1 : C ≤ 2
    · by_cases w1 : w ≤ 3
      · by_cases d1 : (nz : Int) ≤ 8
        · obtain rfl : y = true := by rw [hy]; exact decide_eq_true (by unfold fwB; omega)
          clear hy
          go_enter Try.func9, Try.ntmps9
          go_wp2
          go_ret
          exact ⟨rfl, by go_grown⟩
        · obtain rfl : y = false := by rw [hy]; exact decide_eq_false (by unfold fwB; omega)
          clear hy
          go_enter Try.func9, Try.ntmps9
          go_wp2
          go_ret
          exact ⟨rfl, by go_grown⟩
      · by_cases w2 : 6 < w
        · by_cases d1 : (nz : Int) ≤ 8
          · obtain rfl : y = true := by rw [hy]; exact decide_eq_true (by unfold fwB; omega)
            clear hy
            go_enter Try.func9, Try.ntmps9
            go_wp2
            go_ret
            exact ⟨rfl, by go_grown⟩
          · obtain rfl : y = false := by rw [hy]; exact decide_eq_false (by unfold fwB; omega)
            clear hy
            go_enter Try.func9, Try.ntmps9
            go_wp2
            go_ret
            exact ⟨rfl, by go_grown⟩
        · obtain rfl : y = false := by rw [hy]; exact decide_eq_false (by unfold fwB; omega)
          clear hy
          go_enter Try.func9, Try.ntmps9
          go_wp2
          go_ret
          exact ⟨rfl, by go_grown⟩
    · by_cases g2 : 6 < C
      · by_cases w1 : w ≤ 3
        · by_cases d1 : (nz : Int) ≤ 8
          · obtain rfl : y = true := by rw [hy]; exact decide_eq_true (by unfold fwB; omega)
            clear hy
            go_enter Try.func9, Try.ntmps9
            go_wp2
            go_ret
            exact ⟨rfl, by go_grown⟩
          · obtain rfl : y = false := by rw [hy]; exact decide_eq_false (by unfold fwB; omega)
            clear hy
            go_enter Try.func9, Try.ntmps9
            go_wp2
            go_ret
            exact ⟨rfl, by go_grown⟩
        · by_cases w2 : 6 < w
          · by_cases d1 : (nz : Int) ≤ 8
            · obtain rfl : y = true := by rw [hy]; exact decide_eq_true (by unfold fwB; omega)
              clear hy
              go_enter Try.func9, Try.ntmps9
              go_wp2
              go_ret
              exact ⟨rfl, by go_grown⟩
            · obtain rfl : y = false := by rw [hy]; exact decide_eq_false (by unfold fwB; omega)
              clear hy
              go_enter Try.func9, Try.ntmps9
              go_wp2
              go_ret
              exact ⟨rfl, by go_grown⟩
          · obtain rfl : y = false := by rw [hy]; exact decide_eq_false (by unfold fwB; omega)
            clear hy
            go_enter Try.func9, Try.ntmps9
            go_wp2
            go_ret
            exact ⟨rfl, by go_grown⟩
      · obtain rfl : y = false := by rw [hy]; exact decide_eq_false (by unfold fwB; omega)
        clear hy
        go_enter Try.func9, Try.ntmps9
        go_wp2
        go_ret
        exact ⟨rfl, by go_grown⟩
  · by_cases n2 : 200 < (n : Int)
    · by_cases n3 : (n : Int) ≤ 210
      · by_cases g1 : C ≤ 2
        · by_cases w1 : w ≤ 3
          · by_cases d1 : (nz : Int) ≤ 8
            · obtain rfl : y = true := by rw [hy]; exact decide_eq_true (by unfold fwB; omega)
              clear hy
              go_enter Try.func9, Try.ntmps9
              go_wp2
              go_ret
              exact ⟨rfl, by go_grown⟩
            · obtain rfl : y = false := by rw [hy]; exact decide_eq_false (by unfold fwB; omega)
              clear hy
              go_enter Try.func9, Try.ntmps9
              go_wp2
              go_ret
              exact ⟨rfl, by go_grown⟩
          · by_cases w2 : 6 < w
            · by_cases d1 : (nz : Int) ≤ 8
              · obtain rfl : y = true := by rw [hy]; exact decide_eq_true (by unfold fwB; omega)
                clear hy
                go_enter Try.func9, Try.ntmps9
                go_wp2
                go_ret
                exact ⟨rfl, by go_grown⟩
              · obtain rfl : y = false := by rw [hy]; exact decide_eq_false (by unfold fwB; omega)
                clear hy
                go_enter Try.func9, Try.ntmps9
                go_wp2
                go_ret
                exact ⟨rfl, by go_grown⟩
            · obtain rfl : y = false := by rw [hy]; exact decide_eq_false (by unfold fwB; omega)
              clear hy
              go_enter Try.func9, Try.ntmps9
              go_wp2
              go_ret
              exact ⟨rfl, by go_grown⟩
        · by_cases g2 : 6 < C
          · by_cases w1 : w ≤ 3
            · by_cases d1 : (nz : Int) ≤ 8
              · obtain rfl : y = true := by rw [hy]; exact decide_eq_true (by unfold fwB; omega)
                clear hy
                go_enter Try.func9, Try.ntmps9
                go_wp2
                go_ret
                exact ⟨rfl, by go_grown⟩
              · obtain rfl : y = false := by rw [hy]; exact decide_eq_false (by unfold fwB; omega)
                clear hy
                go_enter Try.func9, Try.ntmps9
                go_wp2
                go_ret
                exact ⟨rfl, by go_grown⟩
            · by_cases w2 : 6 < w
              · by_cases d1 : (nz : Int) ≤ 8
                · obtain rfl : y = true := by rw [hy]; exact decide_eq_true (by unfold fwB; omega)
                  clear hy
                  go_enter Try.func9, Try.ntmps9
                  go_wp2
                  go_ret
                  exact ⟨rfl, by go_grown⟩
                · obtain rfl : y = false := by rw [hy]; exact decide_eq_false (by unfold fwB; omega)
                  clear hy
                  go_enter Try.func9, Try.ntmps9
                  go_wp2
                  go_ret
                  exact ⟨rfl, by go_grown⟩
              · obtain rfl : y = false := by rw [hy]; exact decide_eq_false (by unfold fwB; omega)
                clear hy
                go_enter Try.func9, Try.ntmps9
                go_wp2
                go_ret
                exact ⟨rfl, by go_grown⟩
          · obtain rfl : y = false := by rw [hy]; exact decide_eq_false (by unfold fwB; omega)
            clear hy
            go_enter Try.func9, Try.ntmps9
            go_wp2
            go_ret
            exact ⟨rfl, by go_grown⟩
      · obtain rfl : y = false := by rw [hy]; exact decide_eq_false (by unfold fwB; omega)
        clear hy
        go_enter Try.func9, Try.ntmps9
        go_wp2
        go_ret
        exact ⟨rfl, by go_grown⟩
    · obtain rfl : y = false := by rw [hy]; exact decide_eq_false (by unfold fwB; omega)
      clear hy
      go_enter Try.func9, Try.ntmps9
      go_wp2
      go_ret
      exact ⟨rfl, by go_grown⟩
end Go.Proofs.Ytejoombhcnldmaa
