/- Contracts of line.place, isLevel, allOf, Fits and hindrance over the seat's translation. -/
import Derived.Test.YtcnbaoijgfaljaaLnA
import Derived.Test.YtcnbaoijgfaljaaShelfB
import Derived.Deep.RegionHeld3
namespace Go.Proofs.Ytcnbaoijgfaljaa
open Go.RowKit
open Cb
open Tw (pm)

theorem lplace (i : Nat) (h : i ≤ 1000) : Ret 39 #[.int .i64 (i : Int)] (.agg #[.int .u64 0, .int .u64 (i : Int)]) := by
  intro W
  go_enter Try.func39, Try.ntmps39
  go_wp2
  refine bodyPost_ret (v := .agg #[.int .u64 0, .int .u64 (i : Int)]) (by simp [results, Try.results39, go_sem, *]) rfl ⟨rfl, ?_⟩
  go_grown
theorem llevel_yes (l : Int) (h : 0 ≤ l ∧ l ≤ 7) : Ret 53 #[.int .i64 l] (.bool true) := by
  intro W
  obtain ⟨h1, h2⟩ := h
  go_enter Try.func53, Try.ntmps53
  go_wp2
  go_ret
  exact ⟨rfl, by first | exact Below.refl _ _ | go_grown⟩
theorem llevel_no (l : Int) (h : ¬ (0 ≤ l ∧ l ≤ 7)) : Ret 53 #[.int .i64 l] (.bool false) := by
  intro W
  rcases Int.lt_or_le l 0 with h1 | h1
  · have h2 : ¬ 0 ≤ l := by omega
    go_enter Try.func53, Try.ntmps53
    go_wp2
    go_ret
    exact ⟨rfl, by first | exact Below.refl _ _ | go_grown⟩
  · have h2 : ¬ l ≤ 7 := by omega
    go_enter Try.func53, Try.ntmps53
    go_wp2
    go_ret
    exact ⟨rfl, by first | exact Below.refl _ _ | go_grown⟩
set_option maxHeartbeats 2000000 in
/-- Are all elements of a level? -/
theorem lall_any (l : Int) (a : Option Addr) (cap : Nat) (es : List (Nat × Nat)) (hes : ltE es) (W : World) (hr : ERow W a es) (h10 : es.length ≤ 100000) :
    Calls Try.prog 54 #[.int .i64 l, .slice a es.length cap] W fun e w' => e = .returned (.bool (es.all fun e => ofB l (e.1 : Int) (e.2 : Int))) ∧ Below W.heap.size W w' := by
  have HR : Hid (ERow W a es) := hr
  have HO : Hid (∀ j : Nat, Ret 38 #[.int .i64 l, .agg #[.int .u64 ((es.getD j (0, 0)).1 : Int), .int .u64 ((es.getD j (0, 0)).2 : Int)]] (.bool (ofB l ((es.getD j (0, 0)).1 : Int) ((es.getD j (0, 0)).2 : Int)))) := fun j => of_ret l _ _ (hes.at j).2
  clear hr hes
  go_enter Try.func54, Try.ntmps54
  go_wp2_with fail
  go_loopw [9] (fun u wr => ∃ j : Nat, j ≤ es.length ∧ u = .int .i64 j ∧ Hid ((es.take j).all (fun e => ofB l (e.1 : Int) (e.2 : Int)) = true) ∧ Below W.heap.size W wr) (fun u _ => es.length - (intOf u).toNat)
  case atStart => exact ⟨0, Nat.zero_le _, rfl, (by rfl), Below.refl _ _⟩
  case round =>
    obtain ⟨j, hj, rfl, HT, hD⟩ := hrel
    by_cases hlt : j < es.length
    · obtain ⟨b, off, rfl, hb, c1, c0⟩ := HR.out.cells j hlt
      have d1 : wr.cell? ⟨b, off + j * 2, none⟩ = some (.int .u64 ((es.getD j (0, 0)).1 : Nat)) := by rw [hD.cell (p := ⟨b, off + j * 2, none⟩) hb]; exact c1
      have d0 : wr.cell? ⟨b, off + j * 2 + 1, none⟩ = some (.int .u64 ((es.getD j (0, 0)).2 : Nat)) := by rw [hD.cell (p := ⟨b, off + j * 2 + 1, none⟩) hb]; exact c0
      have H1 := HO.out j
      have HD : Hid (Below W.heap.size W wr) := hD
      have HS : Hid (es.take (j + 1) = es.take j ++ [es.getD j (0, 0)]) := take_sn es j hlt
      have HM : Hid (es.getD j (0, 0) ∈ es) := by show _ ∈ _; rw [show es.getD j (0, 0) = es[j] by simp [hlt]]; exact List.getElem_mem hlt
      clear hD c1 c0 HR HO
      generalize es.getD j (0, 0) = x at *
      rcases hB : ofB l (x.1 : Int) (x.2 : Int) with _ | _
      · rw [hB] at H1
        go_wp2_with fail
        refine (H1.go _).mono ?_
        rintro e w4 ⟨rfl, hb4⟩
        have HD4 : Hid (Below W.heap.size W w4) := (HD.out.alloc HD.out.size _).trans (hb4.mono (by have := HD.out.size; simp; omega))
        clear hb4 d1 d0 HD
        go_wp2
        go_ret
        refine ⟨?_, HD4.out⟩
        rw [show (es.all fun e => ofB l (e.1 : Int) (e.2 : Int)) = false from by
          rw [List.all_eq_false]; exact ⟨x, HM.out, by rw [hB]; decide⟩]
        rfl
      · rw [hB] at H1
        go_wp2_with fail
        refine (H1.go _).mono ?_
        rintro e w4 ⟨rfl, hb4⟩
        have HD4 : Hid (Below W.heap.size W w4) := (HD.out.alloc HD.out.size _).trans (hb4.mono (by have := HD.out.size; simp; omega))
        clear hb4 d1 d0 HD
        go_wp2
        exact ⟨⟨j + 1, hlt, by simp, (by show _ = _; rw [HS.out, List.all_append, HT.out]; simp [hB]), HD4.out⟩, by simp [intOf]; omega⟩
    · have HD : Hid (Below W.heap.size W wr) := hD
      obtain rfl : j = es.length := by omega
      clear hD
      go_wp2
      go_ret
      refine ⟨?_, HD.out⟩
      have := HT.out
      rw [List.take_of_length_le (Nat.le_refl _)] at this
      rw [this]
      rfl
/-- Are there the places 0 to d? -/
def fitB (l d : Int) : Bool := decide (0 ≤ d ∧ d ≤ 8) && ofB l 0 d
theorem lfits (l d : Int) : Ret 15 #[.int .i64 l, .int .i64 d] (.bool (fitB l d)) := by
  intro W
  unfold fitB
  by_cases h : 0 ≤ d ∧ d ≤ 8
  · obtain ⟨n, rfl⟩ : ∃ n : Nat, d = (n : Int) := ⟨d.toNat, by omega⟩
    have H1 := lplace n (by omega)
    have H2 := of_ret l 0 n (by omega)
    rw [decide_eq_true h, Bool.true_and]
    obtain ⟨h1, h2⟩ := h
    generalize ofB l ((0 : Nat) : Int) (n : Int) = B at *
    go_enter Try.func15, Try.ntmps15
    go_wp2_with (first | (go_at_call 39; refine (H1.go _).mono ?_; rintro e w1 ⟨rfl, hb1⟩) | (go_at_call 38; refine (H2.go _).mono ?_; rintro e w2 ⟨rfl, hb2⟩))
    go_ret
    exact ⟨rfl, hb1.trans (hb2.mono hb1.size)⟩
  · rw [decide_eq_false h, Bool.false_and]
    rcases Int.lt_or_le d 0 with h1 | h1
    · have h2 : ¬ 0 ≤ d := by omega
      go_enter Try.func15, Try.ntmps15
      go_wp2
      go_ret
      exact ⟨rfl, by first | exact Below.refl _ _ | go_grown⟩
    · have h2 : ¬ d ≤ 8 := by omega
      go_enter Try.func15, Try.ntmps15
      go_wp2
      go_ret
      exact ⟨rfl, by first | exact Below.refl _ _ | go_grown⟩
/-- What hinders. -/
def lhnd (l d : Int) (t p : List (Nat × Nat)) : Int :=
  if 0 ≤ l ∧ l ≤ 7 then (if fitB l d = true ∧ t.length ≠ 0 ∧ (t.length : Int) ≤ d + 1 then (if (t.all fun e => ofB l (e.1 : Int) (e.2 : Int)) = true ∧ (p.all fun e => ofB l (e.1 : Int) (e.2 : Int)) = true then 0 else 5) else 6) else 1
set_option maxHeartbeats 4000000 in
theorem lhind_any (l d : Int) (a c : Option Addr) (cap cap2 : Nat) (t p : List (Nat × Nat)) (ht : ltE t) (hp : ltE p) (h1 : t.length ≤ 1000) (h2 : p.length ≤ 1000) (W : World) (ha : ERow W a t) (hc : ERow W c p) :
    Calls Try.prog 33 #[.int .i64 l, .int .i64 d, .slice a t.length cap, .slice c p.length cap2] W fun e w' => e = .returned (.int .i64 (lhnd l d t p)) ∧ Below W.heap.size W w' := by
  have HA : Hid (∀ w, Below W.heap.size W w → Calls Try.prog 54 #[.int .i64 l, .slice a t.length cap] w fun e w' => e = .returned (.bool (t.all fun e => ofB l (e.1 : Int) (e.2 : Int))) ∧ Below w.heap.size w w') := fun w hb => lall_any l a cap t ht w (ha.below hb) (by omega)
  have HC : Hid (∀ w, Below W.heap.size W w → Calls Try.prog 54 #[.int .i64 l, .slice c p.length cap2] w fun e w' => e = .returned (.bool (p.all fun e => ofB l (e.1 : Int) (e.2 : Int))) ∧ Below w.heap.size w w') := fun w hb => lall_any l c cap2 p hp w (hc.below hb) (by omega)
  have HF : Hid (Ret 15 #[.int .i64 l, .int .i64 d] (.bool (fitB l d))) := lfits l d
  unfold lhnd
  have hd8 : fitB l d = true → 0 ≤ d ∧ d ≤ 8 := fun h => by
    unfold fitB at h
    rw [Bool.and_eq_true] at h
    exact of_decide_eq_true h.1
  clear ha hc ht hp h2
  generalize (t.all fun e => ofB l (e.1 : Int) (e.2 : Int)) = x at *
  generalize (p.all fun e => ofB l (e.1 : Int) (e.2 : Int)) = y at *
  generalize fitB l d = f at *
  by_cases hl : 0 ≤ l ∧ l ≤ 7
  · have HL := llevel_yes l hl
    rw [if_pos hl]
    by_cases hf : f = true ∧ t.length ≠ 0 ∧ (t.length : Int) ≤ d + 1
    · rw [if_pos hf]
      obtain ⟨rfl, hn, hd⟩ := hf
      obtain ⟨h3, h4⟩ := hd8 rfl
      have hn' : ((t.length : Int) == 0) = false := by rw [beq_eq_false_iff_ne]; omega
      have hd' : ¬ d + 1 < (t.length : Int) := by omega
      clear hd8 hn hd
      cases x
      · rw [if_neg (by rintro ⟨h, _⟩; cases h)]
        go_enter Try.func33, Try.ntmps33
        go_wp2_with (first | (go_at_call 53; refine (HL.go _).mono ?_; rintro e w1 ⟨rfl, hb1⟩) | (go_at_call 15; refine (HF.out.go _).mono ?_; rintro e w2 ⟨rfl, hb2⟩; have hb := hb1.trans (hb2.mono hb1.size)) | (go_at_call 54; refine (HA.out _ hb).mono ?_; rintro e w3 ⟨rfl, hb3⟩))
        go_ret
        exact ⟨rfl, hb.trans (hb3.mono hb.size)⟩
      · cases y
        · rw [if_neg (by rintro ⟨_, h⟩; cases h)]
          go_enter Try.func33, Try.ntmps33
          go_wp2_with (first | (go_at_call 53; refine (HL.go _).mono ?_; rintro e w1 ⟨rfl, hb1⟩) | (go_at_call 15; refine (HF.out.go _).mono ?_; rintro e w2 ⟨rfl, hb2⟩; have hb := hb1.trans (hb2.mono hb1.size)) | (go_at_call_of 54 (#[.int .i64 l, .slice a t.length cap] : Array Value); refine (HA.out _ hb).mono ?_; rintro e w3 ⟨rfl, hb3⟩; have hb' := hb.trans (hb3.mono hb.size); clear HA) | (go_at_call 54; refine (HC.out _ hb').mono ?_; rintro e w4 ⟨rfl, hb4⟩))
          go_ret
          exact ⟨rfl, hb'.trans (hb4.mono hb'.size)⟩
        · rw [if_pos ⟨rfl, rfl⟩]
          go_enter Try.func33, Try.ntmps33
          go_wp2_with (first | (go_at_call 53; refine (HL.go _).mono ?_; rintro e w1 ⟨rfl, hb1⟩) | (go_at_call 15; refine (HF.out.go _).mono ?_; rintro e w2 ⟨rfl, hb2⟩; have hb := hb1.trans (hb2.mono hb1.size)) | (go_at_call_of 54 (#[.int .i64 l, .slice a t.length cap] : Array Value); refine (HA.out _ hb).mono ?_; rintro e w3 ⟨rfl, hb3⟩; have hb' := hb.trans (hb3.mono hb.size); clear HA) | (go_at_call 54; refine (HC.out _ hb').mono ?_; rintro e w4 ⟨rfl, hb4⟩))
          go_ret
          exact ⟨rfl, hb'.trans (hb4.mono hb'.size)⟩
    · rw [if_neg hf]
      cases f
      · clear hd8 hf
        go_enter Try.func33, Try.ntmps33
        go_wp2_with (first | (go_at_call 53; refine (HL.go _).mono ?_; rintro e w1 ⟨rfl, hb1⟩) | (go_at_call 15; refine (HF.out.go _).mono ?_; rintro e w2 ⟨rfl, hb2⟩; have hb := hb1.trans (hb2.mono hb1.size)))
        go_ret
        exact ⟨rfl, hb⟩
      · obtain ⟨h3, h4⟩ := hd8 rfl
        by_cases hn : t.length = 0
        · have hn' : ((t.length : Int) == 0) = true := by rw [beq_iff_eq]; omega
          clear hd8 hf
          go_enter Try.func33, Try.ntmps33
          go_wp2_with (first | (go_at_call 53; refine (HL.go _).mono ?_; rintro e w1 ⟨rfl, hb1⟩) | (go_at_call 15; refine (HF.out.go _).mono ?_; rintro e w2 ⟨rfl, hb2⟩; have hb := hb1.trans (hb2.mono hb1.size)))
          go_ret
          exact ⟨rfl, hb⟩
        · have hn' : ((t.length : Int) == 0) = false := by rw [beq_eq_false_iff_ne]; omega
          have hd' : d + 1 < (t.length : Int) := by
            rcases Int.lt_or_le (d + 1) (t.length : Int) with h | h
            · exact h
            · exact absurd ⟨rfl, hn, h⟩ hf
          clear hd8 hf hn
          go_enter Try.func33, Try.ntmps33
          go_wp2_with (first | (go_at_call 53; refine (HL.go _).mono ?_; rintro e w1 ⟨rfl, hb1⟩) | (go_at_call 15; refine (HF.out.go _).mono ?_; rintro e w2 ⟨rfl, hb2⟩; have hb := hb1.trans (hb2.mono hb1.size)))
          go_ret
          exact ⟨rfl, hb⟩
  · have HL := llevel_no l hl
    rw [if_neg hl]
    clear hd8
    go_enter Try.func33, Try.ntmps33
    go_wp2_with (go_at_call 53; refine (HL.go _).mono ?_; rintro e w1 ⟨rfl, hb1⟩)
    go_ret
    exact ⟨rfl, hb1⟩
end Go.Proofs.Ytcnbaoijgfaljaa
