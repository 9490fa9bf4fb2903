/- Contract of tower.Pow over the seat's translation. -/
import Derived.Test.YtdjndcgocmmmcaaTwBl
namespace Go.Proofs.Ytdjndcgocmmmcaa
open Go.RowKit

theorem bit_nat (n j : Nat) (hn : n < 2 ^ 64) : bits .and .u64 ((n : Int) / 2 ^ j) 1 = ((n / 2 ^ j % 2 : Nat) : Int) := by
  have h1 : n / 2 ^ j < 2 ^ 64 := Nat.lt_of_le_of_lt (Nat.div_le_self _ _) hn
  have h2 : (n : Int) / 2 ^ j = ((n / 2 ^ j : Nat) : Int) := by rw [Int.natCast_ediv, Int.natCast_pow]; rfl
  have := u64_and_nat (n / 2 ^ j) 1 h1 (by decide)
  rw [Nat.and_one_is_mod] at this
  rw [h2]; exact this

set_option maxHeartbeats 4000000 in
set_option maxRecDepth 100000 in
theorem pow_core (l : Int) (ah al n L : Nat) (sq pw : Nat → Nat × Nat) (hn : n < 2 ^ 64) (hL : L ≤ 64)
    (HO : Ret 28 #[.int .i64 l, .agg #[.int .u64 (ah : Int), .int .u64 (al : Int)]] (.bool true))
    (O1 : Ret 34 #[] (.agg #[.int .u64 0, .int .u64 1]))
    (HL : Hid (∀ W, Calls Try.prog 45 #[.int .u64 (n : Int)] W fun e w' => e = .returned (.int .i64 (L : Int)) ∧ w' = W))
    (Z1 : Hid (sq 0 = (ah, al))) (Z2 : Hid (pw 0 = (0, 1)))
    (SQ : Hid (∀ i, Ret 42 #[.agg #[.int .u64 ((sq i).1 : Int), .int .u64 ((sq i).2 : Int)]] (.agg #[.int .u64 ((sq (i + 1)).1 : Int), .int .u64 ((sq (i + 1)).2 : Int)])))
    (PR : Hid (∀ i, n / 2 ^ i % 2 = 1 → Ret 40 #[.agg #[.int .u64 ((pw i).1 : Int), .int .u64 ((pw i).2 : Int)], .agg #[.int .u64 ((sq i).1 : Int), .int .u64 ((sq i).2 : Int)]] (.agg #[.int .u64 ((pw (i + 1)).1 : Int), .int .u64 ((pw (i + 1)).2 : Int)])))
    (PZ : Hid (∀ i, n / 2 ^ i % 2 = 0 → pw (i + 1) = pw i)) :
    Ret 31 #[.int .i64 l, .agg #[.int .u64 (ah : Int), .int .u64 (al : Int)], .int .u64 (n : Int)] (.agg #[.int .u64 ((pw L).1 : Int), .int .u64 ((pw L).2 : Int)]) := by
  intro W
  go_enter Try.func31, Try.ntmps31
  go_wp2_with fail
  refine (HO.go _).mono ?_
  rintro e w1 ⟨rfl, hb1⟩
  have A : Ew w1 W.heap.size ah al := Ew.below ⟨⟨by simp [go_sem], by simp [go_sem]⟩, by simp [go_sem], by simp [go_sem]⟩ hb1
  have R : Ew w1 (W.heap.size + 1) 0 0 := Ew.below ⟨⟨by simp [go_sem], by simp [go_sem]⟩, by simp [go_sem], by simp [go_sem]⟩ hb1
  have D : Below W.heap.size W w1 := (((Below.refl _ _).alloc (Nat.le_refl _) _).alloc (by simp) _).trans (hb1.mono (by simp <;> omega))
  clear hb1
  go_wp2_with fail
  refine (O1.go _).mono ?_
  rintro e w2 ⟨rfl, hb2⟩
  have A := A.below hb2
  have R := R.below hb2
  have D := D.trans (hb2.mono D.size)
  have hz := R.toEl.lt
  clear hb2
  go_wp2_with (go_at_call 45; refine (HL.out _).mono ?_; rintro e w3 ⟨rfl, rfl⟩)
  have A0 : Ew (w2.alloc (Obj.cells #[.int .u64 0, .int .u64 1] 24)) W.heap.size (sq 0).1 (sq 0).2 := by rw [Z1.out]; exact A.alloc _
  have R0 : Ew (w2.alloc (Obj.cells #[.int .u64 0, .int .u64 1] 24)) (W.heap.size + 1) 0 0 := R.alloc _
  have P0 : Ew (w2.alloc (Obj.cells #[.int .u64 0, .int .u64 1] 24)) w2.heap.size (pw 0).1 (pw 0).2 := by rw [Z2.out]; exact ⟨⟨by simp [go_sem], by simp [go_sem]⟩, by simp [go_sem], by simp [go_sem]⟩
  have D0 : Below W.heap.size W (w2.alloc (Obj.cells #[.int .u64 0, .int .u64 1] 24)) := D.alloc D.size _
  clear A R D
  go_loopw [17] (fun u wr => ∃ j : Nat, j ≤ L ∧ u = .int .i64 j ∧ Ew wr W.heap.size (sq j).1 (sq j).2 ∧ Ew wr (W.heap.size + 1) 0 0 ∧ Ew wr w2.heap.size (pw j).1 (pw j).2 ∧ Below W.heap.size W wr) (fun u _ => L - (intOf u).toNat)
  case atStart => exact ⟨0, Nat.zero_le _, rfl, A0, R0, P0, D0⟩
  case round =>
    obtain ⟨j, hj, rfl, hA, hR, hP, hD⟩ := hrel
    by_cases hjl : j < L
    · have HA : Hid (Ew wr W.heap.size (sq j).1 (sq j).2) := hA
      have HR : Hid (Ew wr (W.heap.size + 1) 0 0) := hR
      have HP : Hid (Ew wr w2.heap.size (pw j).1 (pw j).2) := hP
      have HD : Hid (Below W.heap.size W wr) := hD
      have a1 := hA.hi
      have a0 := hA.lo
      have p1 := hP.hi
      have p0 := hP.lo
      clear hA hR hP hD A0 R0 P0 D0
      have h64 : (j : Int) < 64 := by omega
      have fb := bit_nat n j hn
      have hlt1 : W.heap.size < wr.heap.size := HA.out.toEl.lt
      have hle2 : W.heap.size ≤ w2.heap.size := by omega
      by_cases hbit : n / 2 ^ j % 2 = 1
      · rw [hbit] at fb
        have fb1 : bits .and .u64 ((n : Int) / 2 ^ j) 1 = 1 := fb
        have HPR := PR.out j hbit
        clear fb hbit PR PZ
        go_wp2_with fail
        refine (HPR.go _).mono ?_
        rintro e w4 ⟨rfl, hb4⟩
        have HA4 := HA.out.below hb4
        have HR4 := HR.out.below hb4
        have HP4 := HP.out.below hb4
        have HD4 := HD.out.trans (hb4.mono HD.out.size)
        clear hb4 HA HR HP HD a1 a0 p1 p0
        have HA5 : Hid (Ew ((w4.setCell ⟨w2.heap.size, 0, none⟩ (.int .u64 ((pw (j + 1)).1 : Int))).setCell ⟨w2.heap.size, 1, none⟩ (.int .u64 ((pw (j + 1)).2 : Int))) W.heap.size (sq j).1 (sq j).2) := HA4.other (by omega) _ _
        have HR5 : Hid (Ew ((w4.setCell ⟨w2.heap.size, 0, none⟩ (.int .u64 ((pw (j + 1)).1 : Int))).setCell ⟨w2.heap.size, 1, none⟩ (.int .u64 ((pw (j + 1)).2 : Int))) (W.heap.size + 1) 0 0) := HR4.other (by omega) _ _
        have HP5 : Hid (Ew ((w4.setCell ⟨w2.heap.size, 0, none⟩ (.int .u64 ((pw (j + 1)).1 : Int))).setCell ⟨w2.heap.size, 1, none⟩ (.int .u64 ((pw (j + 1)).2 : Int))) w2.heap.size (pw (j + 1)).1 (pw (j + 1)).2) := HP4.set _ _
        have HD5 : Hid (Below W.heap.size W ((w4.setCell ⟨w2.heap.size, 0, none⟩ (.int .u64 ((pw (j + 1)).1 : Int))).setCell ⟨w2.heap.size, 1, none⟩ (.int .u64 ((pw (j + 1)).2 : Int)))) := (HD4.setCell hle2 _).setCell hle2 _
        obtain ⟨⟨a1, a0⟩, _, _⟩ := HA4
        obtain ⟨⟨p1, p0⟩, t1, t0⟩ := HP4
        have hne : ¬ W.heap.size = w2.heap.size := by omega
        clear HR4 HD4
        go_wp2_with fail
        refine ((SQ.out j).go _).mono ?_
        rintro e w6 ⟨rfl, hb6⟩
        have HA6 : Hid (Ew w6 W.heap.size (sq j).1 (sq j).2) := HA5.out.below hb6
        have HR6 : Hid (Ew w6 (W.heap.size + 1) 0 0) := HR5.out.below hb6
        have HP6 : Hid (Ew w6 w2.heap.size (pw (j + 1)).1 (pw (j + 1)).2) := HP5.out.below hb6
        have HD6 : Hid (Below W.heap.size W w6) := HD5.out.trans (hb6.mono HD5.out.size)
        clear hb6 HA5 HR5 HP5 HD5 a1 a0 p1 p0 t1 t0
        obtain ⟨⟨a1, a0⟩, t1, t0⟩ := HA6.out
        go_wp2
        exact ⟨⟨j + 1, hjl, by simp, HA6.out.set _ _, HR6.out.other (by omega) _ _, HP6.out.other (by omega) _ _, (HD6.out.setCell (Nat.le_refl _) _).setCell (Nat.le_refl _) _⟩, by simp [intOf]; omega⟩
      · have hbit0 : n / 2 ^ j % 2 = 0 := by omega
        rw [hbit0] at fb
        have fb1 : bits .and .u64 ((n : Int) / 2 ^ j) 1 = 0 := fb
        have HZ : Hid (pw (j + 1) = pw j) := PZ.out j hbit0
        clear fb hbit hbit0 PR PZ
        go_wp2_with fail
        refine ((SQ.out j).go _).mono ?_
        rintro e w4 ⟨rfl, hb4⟩
        have HA4 : Hid (Ew w4 W.heap.size (sq j).1 (sq j).2) := HA.out.below hb4
        have HR4 : Hid (Ew w4 (W.heap.size + 1) 0 0) := HR.out.below hb4
        have HP4 : Hid (Ew w4 w2.heap.size (pw j).1 (pw j).2) := HP.out.below hb4
        have HD4 : Hid (Below W.heap.size W w4) := HD.out.trans (hb4.mono HD.out.size)
        clear hb4 HA HR HP HD a1 a0 p1 p0
        obtain ⟨⟨a1, a0⟩, t1, t0⟩ := HA4.out
        go_wp2
        refine ⟨⟨j + 1, hjl, by simp, HA4.out.set _ _, HR4.out.other (by omega) _ _, ?_, (HD4.out.setCell (Nat.le_refl _) _).setCell (Nat.le_refl _) _⟩, by simp [intOf]; omega⟩
        rw [HZ.out]; exact HP4.out.other (by omega) _ _
    · obtain rfl : j = L := by omega
      have HD : Hid (Below W.heap.size W wr) := hD
      obtain ⟨⟨p1, p0⟩, _, _⟩ := hP
      obtain ⟨⟨r1, r0⟩, t1, t0⟩ := hR
      clear hA hD A0 R0 P0 D0
      go_wp2
      refine bodyPost_ret (v := .agg #[.int .u64 ((pw j).1 : Int), .int .u64 ((pw j).2 : Int)]) (by simp [results, Try.results31, go_sem, *]) rfl ⟨rfl, ?_⟩
      exact (HD.out.setCell (by simp) _).setCell (by simp) _
end Go.Proofs.Ytdjndcgocmmmcaa
