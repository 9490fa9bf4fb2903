/- The document's side of layer 17 over the seat's translation: steepleref06.All, steepleref17.Fits, steeplelaw17.may. -/
import Derived.Test.YtcnbaoijgfaljaaLnB
import Derived.Test.YtcnbaoijgfaljaaRfE
namespace Go.Proofs.Ytcnbaoijgfaljaa
open Go.RowKit
open Cb Ln
open Tw (pm)

set_option maxHeartbeats 2000000 in
theorem lrall (l : Int) (a : Option Addr) (cap : Nat) (es : List (Nat × Nat)) (hes : ltE es) (W : World) (hr : ERow W a es) (h10 : es.length ≤ 100000) :
    Calls Try.prog 23 #[.int .i64 l, .slice a es.length cap] W fun e w' => e = .returned (.bool (es.all fun e => ofB l (e.1 : Int) (e.2 : Int))) ∧ Below W.heap.size W w' := by
  have HR : Hid (ERow W a es) := hr
  have HO : Hid (∀ j : Nat, Ret 12 #[.int .i64 l, .agg #[.int .u64 ((es.getD j (0, 0)).1 : Int), .int .u64 ((es.getD j (0, 0)).2 : Int)]] (.bool (ofB l ((es.getD j (0, 0)).1 : Int) ((es.getD j (0, 0)).2 : Int)))) := fun j => rof_any l _ _ (hes.at j).1 (hes.at j).2
  clear hr hes
  go_enter Try.func23, Try.ntmps23
  go_wp2_with fail
  go_loopw [5] (fun u wr => ∃ j : Nat, j ≤ es.length ∧ u = .int .i64 j ∧ Hid ((es.take j).all (fun e => ofB l (e.1 : Int) (e.2 : Int)) = true) ∧ Below W.heap.size W wr) (fun u _ => es.length - (intOf u).toNat)
  case atStart => exact ⟨0, Nat.zero_le _, rfl, (by rfl), Below.refl _ _⟩
  case round =>
    obtain ⟨j, hj, rfl, HT, hD⟩ := hrel
    by_cases hlt : j < es.length
    · obtain ⟨b, off, rfl, hb, c1, c0⟩ := HR.out.cells j hlt
      have d1 : wr.cell? ⟨b, off + j * 2, none⟩ = some (.int .u64 ((es.getD j (0, 0)).1 : Nat)) := by rw [hD.cell (p := ⟨b, off + j * 2, none⟩) hb]; exact c1
      have d0 : wr.cell? ⟨b, off + j * 2 + 1, none⟩ = some (.int .u64 ((es.getD j (0, 0)).2 : Nat)) := by rw [hD.cell (p := ⟨b, off + j * 2 + 1, none⟩) hb]; exact c0
      have H1 := HO.out j
      have HD : Hid (Below W.heap.size W wr) := hD
      have HS : Hid (es.take (j + 1) = es.take j ++ [es.getD j (0, 0)]) := take_sn es j hlt
      have HM : Hid (es.getD j (0, 0) ∈ es) := by show _ ∈ _; rw [show es.getD j (0, 0) = es[j] by simp [hlt]]; exact List.getElem_mem hlt
      clear hD c1 c0 HR HO
      generalize es.getD j (0, 0) = x at *
      rcases hB : ofB l (x.1 : Int) (x.2 : Int) with _ | _
      · rw [hB] at H1
        go_wp2_with fail
        refine (H1.go _).mono ?_
        rintro e w4 ⟨rfl, hb4⟩
        have HD4 : Hid (Below W.heap.size W w4) := HD.out.trans (hb4.mono HD.out.size)
        clear hb4 d1 d0 HD
        go_wp2
        go_ret
        refine ⟨?_, HD4.out⟩
        rw [show (es.all fun e => ofB l (e.1 : Int) (e.2 : Int)) = false from by
          rw [List.all_eq_false]; exact ⟨x, HM.out, by rw [hB]; decide⟩]
        rfl
      · rw [hB] at H1
        go_wp2_with fail
        refine (H1.go _).mono ?_
        rintro e w4 ⟨rfl, hb4⟩
        have HD4 : Hid (Below W.heap.size W w4) := HD.out.trans (hb4.mono HD.out.size)
        clear hb4 d1 d0 HD
        go_wp2
        exact ⟨⟨j + 1, hlt, by simp, (by show _ = _; rw [HS.out, List.all_append, HT.out]; simp [hB]), HD4.out⟩, by simp [intOf]; omega⟩
    · have HD : Hid (Below W.heap.size W wr) := hD
      obtain rfl : j = es.length := by omega
      clear hD
      go_wp2
      go_ret
      refine ⟨?_, HD.out⟩
      have := HT.out
      rw [List.take_of_length_le (Nat.le_refl _)] at this
      rw [this]
      rfl
theorem fit_no {l d : Int} (h : ¬ (0 ≤ l ∧ l ≤ 7) ∨ d < 0) : fitB l d = false := by
  unfold fitB ofB levelB
  rcases h with h | h
  · simp
    omega
  · rw [decide_eq_false (show ¬ (0 ≤ d ∧ d ≤ 8) by omega), Bool.false_and]
/-- The last degree that fits. -/
def many (k : Nat) : Int := if k = 0 then 1 else if k = 1 then 3 else 8
theorem fit_many (k : Nat) (hk : k < 8) {d : Int} (h : 0 ≤ d) : fitB (k : Int) d = decide (d ≤ many k) := by
  obtain ⟨n, rfl⟩ : ∃ n : Nat, d = (n : Int) := ⟨d.toNat, by omega⟩
  by_cases h8 : n ≤ 8
  · have : ∀ k, k < 8 → ∀ n, n < 9 → fitB (k : Nat) (n : Nat) = decide ((n : Int) ≤ many k) := by decide +kernel
    exact this k hk n (by omega)
  · unfold fitB
    rw [decide_eq_false (show ¬ (0 ≤ (n : Int) ∧ (n : Int) ≤ 8) by omega), Bool.false_and, decide_eq_false]
    unfold many
    split
    · omega
    · split <;> omega
theorem fit_plk {k n : Nat} (hk : k < 8) (h : fitB (k : Int) ((n : Int) - 1) = true) : Ln.plk k n := by
  intro j hj
  have h0 : 0 ≤ (n : Int) - 1 := by omega
  rw [fit_many k hk h0] at h
  have h1 := of_decide_eq_true h
  have h2 : fitB (k : Int) (j : Int) = true := by rw [fit_many k hk (by omega)]; exact decide_eq_true (by omega)
  unfold fitB at h2
  rw [Bool.and_eq_true] at h2
  exact h2.2
set_option maxHeartbeats 2000000 in
theorem rfits (l d : Int) : Ret 16 #[.int .i64 l, .int .i64 d] (.bool (fitB l d)) := by
  intro W
  by_cases hl : 0 ≤ l ∧ l ≤ 7
  · obtain ⟨k, rfl⟩ : ∃ k : Nat, l = (k : Int) := ⟨l.toNat, by omega⟩
    have h1 : ¬ (k : Int) < 0 := by omega
    have h2 : ¬ 7 < (k : Int) := by omega
    rcases Int.lt_or_le d 0 with hd | hd
    · rw [fit_no (.inr hd)]
      clear hl
      go_enter Try.func16, Try.ntmps16
      go_wp2
      go_ret
      exact ⟨rfl, by go_grown⟩
    · rw [fit_many k (by omega) hd]
      have hd' : ¬ d < 0 := by omega
      obtain rfl | rfl | rfl | rfl | rfl | rfl | rfl | rfl : k = 0 ∨ k = 1 ∨ k = 2 ∨ k = 3 ∨ k = 4 ∨ k = 5 ∨ k = 6 ∨ k = 7 := by omega
      all_goals
        simp only [many]
        clear hl h1 h2
        go_enter Try.func16, Try.ntmps16
        go_wp2
        go_ret
        exact ⟨by simp, by go_grown⟩
  · rw [fit_no (.inl hl)]
    rcases Int.lt_or_le l 0 with h1 | h1
    · clear hl
      go_enter Try.func16, Try.ntmps16
      go_wp2
      go_ret
      exact ⟨rfl, by go_grown⟩
    · have h2 : 7 < l := by omega
      have h3 : ¬ l < 0 := by omega
      clear hl
      go_enter Try.func16, Try.ntmps16
      go_wp2
      go_ret
      exact ⟨rfl, by go_grown⟩
/-- What hinders values. -/
def lmy (l : Int) (t : List (Nat × Nat)) : Int := lhnd l ((t.length : Int) - 1) t []
set_option maxHeartbeats 4000000 in
set_option maxRecDepth 100000 in
theorem lmay (l : Int) (a : Option Addr) (cap : Nat) (t : List (Nat × Nat)) (ht : ltE t) (h1 : t.length ≤ 1000) (W : World) (ha : ERow W a t) :
    Calls Try.prog 11 #[.int .i64 l, .slice a t.length cap] W fun e w' => e = .returned (.int .i64 (lmy l t)) ∧ Below W.heap.size W w' := by
  have HR : Hid (∀ w, Below W.heap.size W w → Calls Try.prog 18 #[.slice a t.length cap] w fun e w' => ∃ a' cap', e = .returned (.slice a' t.length cap') ∧ ERow w' a' t ∧ Below w.heap.size w w') := fun w hb => ref_row a cap t (by omega) w (ha.below hb)
  have HA : Hid (∀ (w : World) (a' : Option Addr) (cap' : Nat), ERow w a' t → Calls Try.prog 23 #[.int .i64 l, .slice a' t.length cap'] w fun e w' => e = .returned (.bool (t.all fun e => ofB l (e.1 : Int) (e.2 : Int))) ∧ Below w.heap.size w w') := fun w a' cap' hb => lrall l a' cap' t ht w hb (by omega)
  have HF : Hid (Ret 16 #[.int .i64 l, .int .i64 ((t.length : Int) - 1)] (.bool (fitB l ((t.length : Int) - 1)))) := rfits l _
  have hw : IntKind.i64.wrap ((t.length : Int) - 1) = (t.length : Int) - 1 := by rw [IntKind.wrap_i64]; omega
  unfold lmy lhnd
  rw [show (([] : List (Nat × Nat)).all fun e => ofB l (e.1 : Int) (e.2 : Int)) = true from rfl]
  have hle : (t.length : Int) ≤ (t.length : Int) - 1 + 1 := by omega
  clear ha ht
  generalize (t.all fun e => ofB l (e.1 : Int) (e.2 : Int)) = x at *
  generalize fitB l ((t.length : Int) - 1) = f at *
  by_cases hl : 0 ≤ l ∧ l ≤ 7
  · rw [if_pos hl]
    have g1 : ¬ l < 0 := by omega
    have g2 : ¬ 7 < l := by omega
    by_cases hn : t.length = 0
    · rw [if_neg (by rintro ⟨_, h, _⟩; exact h hn)]
      have hn' : ((t.length : Int) == 0) = true := by rw [beq_iff_eq]; omega
      clear hl hle
      go_enter Try.func11, Try.ntmps11
      go_wp2
      go_ret
      exact ⟨rfl, by first | exact Below.refl _ _ | go_grown⟩
    · have hn' : ((t.length : Int) == 0) = false := by rw [beq_eq_false_iff_ne]; omega
      cases f
      · rw [if_neg (by rintro ⟨h, _⟩; cases h)]
        clear hl hle hn
        go_enter Try.func11, Try.ntmps11
        go_wp2_with (go_at_call 16; refine (HF.out.go _).mono ?_; rintro e w1 ⟨rfl, hb1⟩)
        go_ret
        exact ⟨rfl, hb1⟩
      · rw [if_pos ⟨rfl, hn, hle⟩]
        clear hl hle hn
        cases x
        · rw [if_neg (by rintro ⟨h, _⟩; cases h)]
          go_enter Try.func11, Try.ntmps11
          go_wp2_with (first | (go_at_call 16; refine (HF.out.go _).mono ?_; rintro e w1 ⟨rfl, hb1⟩) | (go_at_call 18; refine (HR.out _ hb1).mono ?_; rintro e w2 ⟨a', cap', rfl, hE, hb2⟩) | (go_at_call 23; refine (HA.out _ _ _ hE).mono ?_; rintro e w3 ⟨rfl, hb3⟩))
          go_ret
          have d1 := hb1.trans (hb2.mono hb1.size)
          exact ⟨rfl, d1.trans (hb3.mono d1.size)⟩
        · rw [if_pos ⟨rfl, rfl⟩]
          go_enter Try.func11, Try.ntmps11
          go_wp2_with (first | (go_at_call 16; refine (HF.out.go _).mono ?_; rintro e w1 ⟨rfl, hb1⟩) | (go_at_call 18; refine (HR.out _ hb1).mono ?_; rintro e w2 ⟨a', cap', rfl, hE, hb2⟩) | (go_at_call 23; refine (HA.out _ _ _ hE).mono ?_; rintro e w3 ⟨rfl, hb3⟩))
          go_ret
          have d1 := hb1.trans (hb2.mono hb1.size)
          exact ⟨rfl, d1.trans (hb3.mono d1.size)⟩
  · rw [if_neg hl]
    clear hle
    rcases Int.lt_or_le l 0 with h2 | h2
    · clear hl
      go_enter Try.func11, Try.ntmps11
      go_wp2
      go_ret
      exact ⟨rfl, by first | exact Below.refl _ _ | go_grown⟩
    · have h3 : 7 < l := by omega
      have h4 : ¬ l < 0 := by omega
      clear hl
      go_enter Try.func11, Try.ntmps11
      go_wp2
      go_ret
      exact ⟨rfl, by first | exact Below.refl _ _ | go_grown⟩
theorem lmy_zero {l : Int} {t : List (Nat × Nat)} (h : lmy l t = 0) : ∃ k : Nat, k < 8 ∧ l = (k : Int) ∧ 0 < t.length ∧ t.length ≤ 9 ∧ Ln.plk k t.length ∧ ofT k t ∧ fitB l ((t.length : Int) - 1) = true := by
  unfold lmy lhnd at h
  by_cases hl : 0 ≤ l ∧ l ≤ 7
  · rw [if_pos hl] at h
    by_cases hf : fitB l ((t.length : Int) - 1) = true ∧ t.length ≠ 0 ∧ (t.length : Int) ≤ (t.length : Int) - 1 + 1
    · rw [if_pos hf] at h
      by_cases ha : (t.all fun e => ofB l (e.1 : Int) (e.2 : Int)) = true ∧ (([] : List (Nat × Nat)).all fun e => ofB l (e.1 : Int) (e.2 : Int)) = true
      · obtain ⟨k, rfl⟩ : ∃ k : Nat, l = (k : Int) := ⟨l.toNat, by omega⟩
        have hk : k < 8 := by omega
        have h9 : t.length ≤ 9 := by
          have := hf.1
          unfold fitB at this
          rw [Bool.and_eq_true] at this
          have := of_decide_eq_true this.1
          omega
        exact ⟨k, hk, rfl, by omega, h9, fit_plk hk hf.1, fun e he => List.all_eq_true.1 ha.1 e he, hf.1⟩
      · rw [if_neg ha] at h; exact absurd h (by decide)
    · rw [if_neg hf] at h; exact absurd h (by decide)
  · rw [if_neg hl] at h; exact absurd h (by decide)
theorem lhnd_ok {k : Nat} (hk : k < 8) {t p : List (Nat × Nat)} (h0 : 0 < t.length) (hf : fitB (k : Int) ((t.length : Int) - 1) = true) (ot : ofT k t) (op : ofT k p) : lhnd (k : Int) ((t.length : Int) - 1) t p = 0 := by
  unfold lhnd
  rw [if_pos ⟨by omega, by omega⟩, if_pos ⟨hf, by omega, by omega⟩, if_pos ⟨List.all_eq_true.2 ot, List.all_eq_true.2 op⟩]
end Go.Proofs.Ytcnbaoijgfaljaa
