/- The document's side of layer 15 over the seat's translation: Value, All, May. -/
import Derived.Test.YtcnbaoijgfaljaaCbG
namespace Go.Proofs.Ytcnbaoijgfaljaa
open Go.RowKit
open Cb
open Tw (pm)

set_option maxHeartbeats 2000000 in
/-- The document's side: are all elements of a level? -/
theorem rall15 (l : Int) (a : Option Addr) (cap : Nat) (es : List (Nat × Nat)) (hes : ltE es) (W : World) (hr : ERow W a es) (h10 : es.length ≤ 100000) :
    Calls Try.prog 23 #[.int .i64 l, .slice a es.length cap] W fun e w' => e = .returned (.bool (es.all fun e => ofB l (e.1 : Int) (e.2 : Int))) ∧ Below W.heap.size W w' := by
  have HR : Hid (ERow W a es) := hr
  have HO : Hid (∀ j : Nat, Ret 12 #[.int .i64 l, .agg #[.int .u64 ((es.getD j (0, 0)).1 : Int), .int .u64 ((es.getD j (0, 0)).2 : Int)]] (.bool (ofB l ((es.getD j (0, 0)).1 : Int) ((es.getD j (0, 0)).2 : Int)))) := fun j => rof_any l _ _ (hes.at j).1 (hes.at j).2
  clear hr hes
  go_enter Try.func23, Try.ntmps23
  go_wp2_with fail
  go_loopw [5] (fun u wr => ∃ j : Nat, j ≤ es.length ∧ u = .int .i64 j ∧ Hid ((es.take j).all (fun e => ofB l (e.1 : Int) (e.2 : Int)) = true) ∧ Below W.heap.size W wr) (fun u _ => es.length - (intOf u).toNat)
  case atStart => exact ⟨0, Nat.zero_le _, rfl, (by rfl), Below.refl _ _⟩
  case round =>
    obtain ⟨j, hj, rfl, HT, hD⟩ := hrel
    by_cases hlt : j < es.length
    · obtain ⟨b, off, rfl, hb, c1, c0⟩ := HR.out.cells j hlt
      have d1 : wr.cell? ⟨b, off + j * 2, none⟩ = some (.int .u64 ((es.getD j (0, 0)).1 : Nat)) := by rw [hD.cell (p := ⟨b, off + j * 2, none⟩) hb]; exact c1
      have d0 : wr.cell? ⟨b, off + j * 2 + 1, none⟩ = some (.int .u64 ((es.getD j (0, 0)).2 : Nat)) := by rw [hD.cell (p := ⟨b, off + j * 2 + 1, none⟩) hb]; exact c0
      have H1 := HO.out j
      have HD : Hid (Below W.heap.size W wr) := hD
      have HS : Hid (es.take (j + 1) = es.take j ++ [es.getD j (0, 0)]) := take_sn es j hlt
      have HM : Hid (es.getD j (0, 0) ∈ es) := by show _ ∈ _; rw [show es.getD j (0, 0) = es[j] by simp [hlt]]; exact List.getElem_mem hlt
      clear hD c1 c0 HR HO
      generalize es.getD j (0, 0) = x at *
      rcases hB : ofB l (x.1 : Int) (x.2 : Int) with _ | _
      · rw [hB] at H1
        go_wp2_with fail
        refine (H1.go _).mono ?_
        rintro e w4 ⟨rfl, hb4⟩
        have HD4 : Hid (Below W.heap.size W w4) := HD.out.trans (hb4.mono HD.out.size)
        clear hb4 d1 d0 HD
        go_wp2
        go_ret
        refine ⟨?_, HD4.out⟩
        rw [show (es.all fun e => ofB l (e.1 : Int) (e.2 : Int)) = false from by
          rw [List.all_eq_false]; exact ⟨x, HM.out, by rw [hB]; decide⟩]
        rfl
      · rw [hB] at H1
        go_wp2_with fail
        refine (H1.go _).mono ?_
        rintro e w4 ⟨rfl, hb4⟩
        have HD4 : Hid (Below W.heap.size W w4) := HD.out.trans (hb4.mono HD.out.size)
        clear hb4 d1 d0 HD
        go_wp2
        exact ⟨⟨j + 1, hlt, by simp, (by show _ = _; rw [HS.out, List.all_append, HT.out]; simp [hB]), HD4.out⟩, by simp [intOf]; omega⟩
    · have HD : Hid (Below W.heap.size W wr) := hD
      obtain rfl : j = es.length := by omega
      clear hD
      go_wp2
      go_ret
      refine ⟨?_, HD.out⟩
      have := HT.out
      rw [List.take_of_length_le (Nat.le_refl _)] at this
      rw [this]
      rfl
set_option maxHeartbeats 1000000 in
/-- May: what hinders First. -/
theorem rmay_any (l : Int) (a c : Option Addr) (cap cap2 : Nat) (t p : List (Nat × Nat)) (ht : ltE t) (hp : ltE p) (h1 : t.length ≤ 1000) (h2 : p.length ≤ 1000) (W : World) (ha : ERow W a t) (hc : ERow W c p) :
    Calls Try.prog 29 #[.int .i64 l, .slice a t.length cap, .slice c p.length cap2] W fun e w' => e = .returned (.int .i64 (fiE l t p)) ∧ Below W.heap.size W w' := by
  have HL : Hid (Ret 51 #[.int .i64 (t.length : Int)] (.int .i64 (lgz t.length))) := rlog_any t.length
  have HA : Hid (∀ w, Below W.heap.size W w → Calls Try.prog 23 #[.int .i64 l, .slice a t.length cap] w fun e w' => e = .returned (.bool (t.all fun e => ofB l (e.1 : Int) (e.2 : Int))) ∧ Below w.heap.size w w') := fun w hb => rall15 l a cap t ht w (ha.below hb) (by omega)
  have HC : Hid (∀ w, Below W.heap.size W w → Calls Try.prog 23 #[.int .i64 l, .slice c p.length cap2] w fun e w' => e = .returned (.bool (p.all fun e => ofB l (e.1 : Int) (e.2 : Int))) ∧ Below w.heap.size w w') := fun w hb => rall15 l c cap2 p hp w (hc.below hb) (by omega)
  unfold fiE hnd
  clear ha hc ht hp h1 h2
  generalize (t.all fun e => ofB l (e.1 : Int) (e.2 : Int)) = x at *
  generalize (p.all fun e => ofB l (e.1 : Int) (e.2 : Int)) = y at *
  generalize lgz t.length = g at *
  by_cases hl : 0 ≤ l ∧ l ≤ 7
  · rw [if_pos hl]
    have l1 : ¬ l < 0 := by omega
    have l2 : ¬ 7 < l := by omega
    clear hl
    by_cases hg : (p.length : Int) ≤ g
    · rw [decide_eq_true hg, if_pos rfl]
      have g1 : ¬ g < 0 := by omega
      have g2 : ¬ g < (p.length : Int) := by omega
      clear hg
      cases x
      · rw [if_neg (by rintro ⟨h, _⟩; cases h)]
        go_enter Try.func29, Try.ntmps29
        go_wp2_with (first | (go_at_call 51; refine (HL.out.go _).mono ?_; first | (rintro e w2 ⟨rfl, hb2⟩; have hb := hb1.trans (hb2.mono hb1.size)) | rintro e w1 ⟨rfl, hb1⟩) | (go_at_call 23; refine (HA.out _ hb).mono ?_; rintro e w3 ⟨rfl, hb3⟩))
        go_ret
        exact ⟨rfl, hb.trans (hb3.mono hb.size)⟩
      · cases y
        · rw [if_neg (by rintro ⟨_, h⟩; cases h)]
          go_enter Try.func29, Try.ntmps29
          go_wp2_with (first | (go_at_call 51; refine (HL.out.go _).mono ?_; first | (rintro e w2 ⟨rfl, hb2⟩; have hb := hb1.trans (hb2.mono hb1.size)) | rintro e w1 ⟨rfl, hb1⟩) | (go_at_call_of 23 (#[.int .i64 l, .slice a t.length cap] : Array Value); refine (HA.out _ hb).mono ?_; rintro e w3 ⟨rfl, hb3⟩; have hc := hb.trans (hb3.mono hb.size); clear HA) | (go_at_call 23; refine (HC.out _ hc).mono ?_; rintro e w4 ⟨rfl, hb4⟩))
          go_ret
          exact ⟨rfl, hc.trans (hb4.mono hc.size)⟩
        · rw [if_pos ⟨rfl, rfl⟩]
          go_enter Try.func29, Try.ntmps29
          go_wp2_with (first | (go_at_call 51; refine (HL.out.go _).mono ?_; first | (rintro e w2 ⟨rfl, hb2⟩; have hb := hb1.trans (hb2.mono hb1.size)) | rintro e w1 ⟨rfl, hb1⟩) | (go_at_call_of 23 (#[.int .i64 l, .slice a t.length cap] : Array Value); refine (HA.out _ hb).mono ?_; rintro e w3 ⟨rfl, hb3⟩; have hc := hb.trans (hb3.mono hb.size); clear HA) | (go_at_call 23; refine (HC.out _ hc).mono ?_; rintro e w4 ⟨rfl, hb4⟩))
          go_ret
          exact ⟨rfl, hc.trans (hb4.mono hc.size)⟩
    · rw [decide_eq_false hg, if_neg (by decide)]
      by_cases g1 : g < 0
      · go_enter Try.func29, Try.ntmps29
        go_wp2_with (go_at_call 51; refine (HL.out.go _).mono ?_; rintro e w1 ⟨rfl, hb1⟩)
        go_ret
        exact ⟨rfl, hb1⟩
      · have g2 : g < (p.length : Int) := by omega
        go_enter Try.func29, Try.ntmps29
        go_wp2_with (go_at_call 51; refine (HL.out.go _).mono ?_; first | (rintro e w2 ⟨rfl, hb2⟩; have hb := hb1.trans (hb2.mono hb1.size)) | rintro e w1 ⟨rfl, hb1⟩)
        go_ret
        exact ⟨rfl, hb⟩
  · rw [if_neg hl]
    by_cases l1 : l < 0
    · go_enter Try.func29, Try.ntmps29
      go_wp2
      go_ret
      exact ⟨rfl, by first | exact Below.refl _ _ | go_grown⟩
    · have l2 : 7 < l := by omega
      go_enter Try.func29, Try.ntmps29
      go_wp2
      go_ret
      exact ⟨rfl, by first | exact Below.refl _ _ | go_grown⟩
end Go.Proofs.Ytcnbaoijgfaljaa
