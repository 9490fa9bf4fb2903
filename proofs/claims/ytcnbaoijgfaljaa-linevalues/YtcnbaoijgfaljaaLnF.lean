/- steeplelaw17.awake and the walk of LinePlaces over the seat's translation. -/
import Derived.Test.YtcnbaoijgfaljaaLnE
namespace Go.Proofs.Ytcnbaoijgfaljaa
open Go.RowKit
open Cb Ln
open Tw (pm)

theorem pm32 : pm (0, 3) (0, 2) = (0, 1) := by decide +kernel
theorem iv_one : Ln.iv (0, 1) = (0, 1) := by
  obtain ⟨h1, h2⟩ := Tw.iv_bit (al := 1) (by decide)
  simp only [Ln.iv, h1, h2]
theorem atv_awake : atv [(0, 1), (0, 3)] (0, 2) = (0, 2) := by
  have l3 : lt2 (0, 3) := ⟨by decide, by decide⟩
  have l2 : lt2 (0, 2) := ⟨by decide, by decide⟩
  have o0 : ov 0 (0, 2) 2 = (0, 3) := by
    show pm (0, 1) (xa (0, 2) (pl 1)) = _
    rw [show xa (0, 2) (pl 1) = (0, 3) by decide, one_pm l3]
  have u0 : un 0 2 = (0, 1) := by
    show pm (0, 1) (xa (pl 0) (pl 1)) = _
    rw [show xa (pl 0) (pl 1) = (0, 1) by decide, one_pm lt_one]
  have o1 : ov 1 (0, 2) 2 = (0, 2) := by
    show pm (0, 1) (xa (0, 2) (pl 0)) = _
    rw [show xa (0, 2) (pl 0) = (0, 2) by decide, one_pm l2]
  have u1 : un 1 2 = (0, 1) := by
    show pm (0, 1) (xa (pl 1) (pl 0)) = _
    rw [show xa (pl 1) (pl 0) = (0, 1) by decide, one_pm lt_one]
  have f0 : fcv 2 0 (0, 2) = (0, 3) := by rw [fcv, o0, u0, iv_one, pm_one l3]
  have f1 : fcv 2 1 (0, 2) = (0, 2) := by rw [fcv, o1, u1, iv_one, pm_one l2]
  show dots [(0, 1), (0, 3)] (fcs 2 (0, 2)) 2 = _
  rw [show fcs 2 (0, 2) = [(0, 3), (0, 2)] by show [fcv 2 0 (0, 2), fcv 2 1 (0, 2)] = _; rw [f0, f1]]
  have e0 : dots [(0, 1), (0, 3)] [(0, 3), (0, 2)] 0 = (0, 0) := rfl
  have e1 : ([(0, 1), (0, 3)] : List (Nat × Nat)).getD 0 (0, 0) = (0, 1) := rfl
  have e2 : ([(0, 1), (0, 3)] : List (Nat × Nat)).getD 1 (0, 0) = (0, 3) := rfl
  have e3 : ([(0, 3), (0, 2)] : List (Nat × Nat)).getD 0 (0, 0) = (0, 3) := rfl
  have e4 : ([(0, 3), (0, 2)] : List (Nat × Nat)).getD 1 (0, 0) = (0, 2) := rfl
  rw [dots_succ, dots_succ, e0, e1, e2, e3, e4, pm32, one_pm l3]
  decide
theorem erow_two {w : World} {b : Nat} {x y : Nat × Nat} (h1 : w.cell? ⟨b, 0, none⟩ = some (.int .u64 (x.1 : Int))) (h2 : w.cell? ⟨b, 1, none⟩ = some (.int .u64 (x.2 : Int))) (h3 : w.cell? ⟨b, 2, none⟩ = some (.int .u64 (y.1 : Int))) (h4 : w.cell? ⟨b, 3, none⟩ = some (.int .u64 (y.2 : Int))) : ERow w (some ⟨b, 0, none⟩) [x, y] := ⟨fun i hi => by
  have hb := cell_lt h1
  simp at hi
  obtain rfl | rfl : i = 0 ∨ i = 1 := by omega
  · exact ⟨b, 0, rfl, hb, h1, h2⟩
  · exact ⟨b, 0, rfl, hb, h3, h4⟩⟩
set_option maxHeartbeats 2000000 in
set_option maxRecDepth 100000 in
theorem awake17 : Ret 9 #[] (.bool true) := by
  intro W
  have HAt : Hid (∀ (w : World) (b : Nat) (cap : Nat), ERow w (some ⟨b, 0, none⟩) [(0, 1), (0, 3)] → Calls Try.prog 10 #[.int .i64 2, .slice (some ⟨b, 0, none⟩) 2 cap, .agg #[.int .u64 0, .int .u64 2]] w fun e w' => e = .returned (.tuple #[.agg #[.int .u64 0, .int .u64 2], .int .i64 0]) ∧ Below w.heap.size w w') := fun w b cap h1 => by
    have := lat_ok 2 (by decide) (some ⟨b, 0, none⟩) cap [(0, 1), (0, 3)] (0, 2) (by intro e he; simp at he; rcases he with rfl | rfl <;> decide) ⟨by decide, by decide⟩ (by decide) (by decide) (by decide) (by intro e he; simp at he; rcases he with rfl | rfl <;> rfl) rfl w h1
    rw [atv_awake] at this
    exact this
  have HL : Hid (Ret 15 #[.int .i64 2, .int .i64 8] (.bool true)) := by
    have := lfits 2 8
    rw [show fitB 2 8 = true by decide] at this
    exact this
  go_enter Try.func9, Try.ntmps9
  go_wp2_with (first | (go_at_call 10; refine (HAt.out _ _ _ (erow_two (by simp [go_sem]) (by simp [go_sem]) (by simp [go_sem]) (by simp [go_sem]))).mono ?_; rintro e w1 ⟨rfl, hb1⟩) | (go_at_call 15; refine (HL.out.go _).mono ?_; rintro e w2 ⟨rfl, hb2⟩))
  go_ret
  have d0 : Below W.heap.size W (W.alloc (Obj.cells #[.int .u64 0, .int .u64 1, .int .u64 0, .int .u64 3] 25)) := by go_grown
  have d1 := d0.trans (hb1.mono d0.size)
  have d2 := d1.alloc d1.size (Obj.cells #[.int .u64 0, .int .u64 2] 25)
  exact ⟨rfl, d2.trans (hb2.mono d2.size)⟩
/-- The value in its box, and what lay there. -/
structure Lp (W w : World) (q : Nat) (y : Nat × Nat) (b o : Nat) (z : Nat × Nat) : Prop where
  y : El w q y.1 y.2
  z1 : w.cell? ⟨b, o, none⟩ = some (.int .u64 (z.1 : Int))
  z0 : w.cell? ⟨b, o + 1, none⟩ = some (.int .u64 (z.2 : Int))
  d : Below W.heap.size W w
theorem Lp.below {W w w' : World} {q : Nat} {y : Nat × Nat} {b o : Nat} {z : Nat × Nat} (h : Lp W w q y b o z) (hb : Below w.heap.size w w') : Lp W w' q y b o z := ⟨h.y.below hb, keepc hb h.z1, keepc hb h.z0, h.d.trans (hb.mono h.d.size)⟩
theorem Lp.drew {W w : World} {q : Nat} {y : Nat × Nat} {b o : Nat} {z : Nat × Nat} (h : Lp W w q y b o z) : Lp W w.drew q y b o z := h.below (Below.refl _ _).drew
theorem Lp.facts {W w : World} {q : Nat} {y : Nat × Nat} {b o : Nat} {z : Nat × Nat} (h : Lp W w q y b o z) : w.cell? ⟨q, 0, none⟩ = some (.int .u64 (y.1 : Int)) ∧ w.cell? ⟨q, 1, none⟩ = some (.int .u64 (y.2 : Int)) ∧ w.cell? ⟨b, o, none⟩ = some (.int .u64 (z.1 : Int)) ∧ w.cell? ⟨b, o + 1, none⟩ = some (.int .u64 (z.2 : Int)) := ⟨h.y.hi, h.y.lo, h.z1, h.z0⟩
theorem place_mod (i : Int) (n : Nat) (hn : 0 < n) (h9 : n ≤ 9) : ∃ j : Nat, j < n ∧ (i.tmod n + n).tmod n = (j : Int) ∧ IntKind.i64.wrap (i.tmod n + n) = i.tmod n + n := by
  have h1 : i.tmod n < n := Int.tmod_lt_of_pos i (by omega)
  have h2 : -(n : Int) < i.tmod n := by
    rcases Int.lt_or_le i 0 with h | h
    · have e : i.tmod n = -((-i).tmod n) := by rw [Int.neg_tmod, Int.neg_neg]
      have := Int.tmod_lt_of_pos (-i) (show (0 : Int) < n by omega)
      omega
    · have := Int.tmod_nonneg (n : Int) h
      omega
  refine ⟨((i.tmod n + n).tmod n).toNat, ?_, ?_, ?_⟩
  · have h3 : (i.tmod n + n).tmod n < n := Int.tmod_lt_of_pos _ (by omega)
    have h4 : 0 ≤ (i.tmod n + n).tmod n := Int.tmod_nonneg _ (by omega)
    omega
  · have h4 : 0 ≤ (i.tmod n + n).tmod n := Int.tmod_nonneg _ (by omega)
    omega
  · rw [IntKind.wrap_i64]; omega
set_option maxHeartbeats 8000000 in
set_option maxRecDepth 100000 in
theorem lp_any (l : Int) (a : Option Addr) (cap : Nat) (i : Int) (t : List (Nat × Nat)) (ht : ltE t) (W : World) (ha : ERow W a t) :
    Calls Try.prog 4 #[.int .i64 l, .slice a t.length cap, .int .i64 i] W fun e w' => e = .returned (.bool true) ∧ Below W.heap.size W w' := by
  have AW : Hid (Ret 9 #[] (.bool true)) := awake17
  by_cases h9 : t.length ≤ 9
  · have HM : Hid (∀ w, Below W.heap.size W w → Calls Try.prog 11 #[.int .i64 l, .slice a t.length cap] w fun e w' => e = .returned (.int .i64 (lmy l t)) ∧ Below w.heap.size w w') := fun w hb => lmay l a cap t ht (by omega) w (ha.below hb)
    have g9 : ¬ (9 : Int) < (t.length : Int) := by omega
    by_cases hE : lmy l t = 0
    · obtain ⟨k, hk, rfl, h0, _, hp, ot, hf⟩ := lmy_zero hE
      rw [hE] at HM
      obtain ⟨j, hj, e1, e2⟩ := place_mod i t.length h0 h9
      have HA : Hid (∀ w, Below W.heap.size W w → Calls Try.prog 10 #[.int .i64 (k : Int), .slice a t.length cap, .agg #[.int .u64 0, .int .u64 (j : Int)]] w fun e w' => e = .returned (.tuple #[.agg #[.int .u64 ((el t j).1 : Int), .int .u64 ((el t j).2 : Int)], .int .i64 0]) ∧ Below w.heap.size w w') := fun w hb => by
        have := lat_ok k hk a cap t (pl j) ht (lt_pl (by omega)) h0 h9 hf ot (hp j hj) w (ha.below hb)
        rw [atv_place ht hj (by omega)] at this
        exact this
      obtain ⟨b, off, rfl, hb, c1, c0⟩ := ha.cells j hj
      have HC : Hid (b < W.heap.size ∧ W.cell? ⟨b, off + j * 2, none⟩ = some (.int .u64 ((el t j).1 : Int)) ∧ W.cell? ⟨b, off + j * 2 + 1, none⟩ = some (.int .u64 ((el t j).2 : Int))) := ⟨hb, c1, c0⟩
      have hn0 : ((t.length : Int) == 0) = false := by rw [beq_eq_false_iff_ne]; omega
      have hj' : (j : Int) < (t.length : Int) := by omega
      have hj9 : j ≤ 8 := by omega
      clear ht ha hE ot hp hf c1 c0 hb
      generalize el t j = y at *
      obtain ⟨r, hr⟩ : ∃ r, r = i.tmod (t.length : Int) := ⟨_, rfl⟩
      go_enter Try.func4, Try.ntmps4
      go_wp2_with (first | (go_at_call 11; refine (HM.out _ (Below.refl _ _)).mono ?_; rintro e w1 ⟨rfl, hb1⟩; have K1 : Hid (Below W.heap.size W w1) := hb1; clear hb1) | (go_at_call 10; refine (HA.out _ K1.out).mono ?_; rintro e w2 ⟨rfl, hb2⟩; have K2 : Hid (Below W.heap.size W w2) := K1.out.trans (hb2.mono K1.out.size); clear hb2))
      have KY : Lp W (w2.alloc (Obj.cells #[.int .u64 (y.1 : Int), .int .u64 (y.2 : Int)] 25)) w2.heap.size y b (off + j * 2) y := by
        have d := K2.out.alloc K2.out.size (Obj.cells #[.int .u64 (y.1 : Int), .int .u64 (y.2 : Int)] 25)
        exact ⟨⟨by simp [go_sem], by simp [go_sem]⟩, keepc d HC.out.2.1, keepc d HC.out.2.2, d⟩
      clear K1 K2
      generalize (w2.alloc (Obj.cells #[.int .u64 (y.1 : Int), .int .u64 (y.2 : Int)] 25)) = w3 at *
      generalize w2.heap.size = q at *
      have F := KY.facts
      go_region_held3 (fun w => w.cell? ⟨q, 0, none⟩ = some (.int .u64 (y.1 : Int)) ∧ w.cell? ⟨q, 1, none⟩ = some (.int .u64 (y.2 : Int)) ∧ w.cell? ⟨b, off + j * 2, none⟩ = some (.int .u64 (y.1 : Int)) ∧ w.cell? ⟨b, off + j * 2 + 1, none⟩ = some (.int .u64 (y.2 : Int))) (first | (go_keep; done) | exact KY.facts | exact KY.drew.facts) (first | (go_at_call 9; refine (AW.out.go _).mono ?_; rintro e w' ⟨rfl, hb'⟩; have K' := Lp.below (w' := w') (by first | exact KY | exact KY.drew) hb'; clear F KY hb'; have KY := K'; clear K'; have F := KY.facts))
      go_wp2
      go_ret
      exact ⟨rfl, KY.d⟩
    · have hE' : (lmy l t != 0) = true := by simp [hE]
      clear ht ha hE
      generalize lmy l t = E at *
      go_enter Try.func4, Try.ntmps4
      go_wp2_with (first | (go_at_call 11; refine (HM.out _ (Below.refl _ _)).mono ?_; rintro e w1 ⟨rfl, hb1⟩) | (go_at_call 9; refine (AW.out.go _).mono ?_; rintro e w2 ⟨rfl, hb2⟩))
      go_ret
      exact ⟨rfl, hb1.trans (hb2.mono hb1.size)⟩
  · have g9 : (9 : Int) < (t.length : Int) := by omega
    clear ht ha
    go_enter Try.func4, Try.ntmps4
    go_wp2_with (go_at_call 9; refine (AW.out.go _).mono ?_; rintro e w2 ⟨rfl, hb2⟩)
    go_ret
    exact ⟨rfl, hb2⟩
end Go.Proofs.Ytcnbaoijgfaljaa
