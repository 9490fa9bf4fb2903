/- Rows that came in; contracts of steeplelaw09.Few, of code's Encode of a nil code and of weave.Encode without a code, over the seat's translation; the walk of WeaveNone. -/
import Derived.Test.YtflkchhdgiojgaaDoorWvF
namespace Go.Proofs.YtflkchhdgiojgaaDoor
open Go.RowKit

/-- Rows in memory: slices, as a slice has them. -/
structure Grid (w : World) (a : Option Addr) (ls : List (Option Addr × Nat × Nat)) : Prop where
  cells : ∀ i, i < ls.length → ∃ b off : Nat, a = some ⟨b, off, none⟩ ∧ b < w.heap.size ∧ w.cell? ⟨b, off + i, none⟩ = some (.slice (ls.getD i (none, 0, 0)).1 (ls.getD i (none, 0, 0)).2.1 (ls.getD i (none, 0, 0)).2.2)
theorem Grid.below {w w' : World} {a : Option Addr} {ls : List (Option Addr × Nat × Nat)} (h : Grid w a ls) (hb : Below w.heap.size w w') : Grid w' a ls := ⟨fun i hi => by
  obtain ⟨b, off, h1, h2, h3⟩ := h.cells i hi
  exact ⟨b, off, h1, Nat.lt_of_lt_of_le h2 hb.size, keepc hb h3⟩⟩
/-- Are rows no more than so many, and no longer than so many? -/
def fewB (ls : List (Option Addr × Nat × Nat)) (most long : Nat) : Bool := decide (ls.length ≤ most) && ls.all fun r => decide (r.2.1 ≤ long)
set_option maxHeartbeats 1000000 in
theorem few_any (a : Option Addr) (cap most long : Nat) (ls : List (Option Addr × Nat × Nat)) (hm : most ≤ 1000) (W : World) (hr : Grid W a ls) :
    Calls Tryd.prog 6 #[.slice a ls.length cap, .int .i64 (most : Int), .int .i64 (long : Int)] W fun e w' => e = .returned (.bool (fewB ls most long)) ∧ Below W.heap.size W w' := by
  have HR : Hid (Grid W a ls) := hr
  clear hr
  by_cases hl : ls.length ≤ most
  · have h1 : ¬ (most : Int) < (ls.length : Int) := by omega
    have HF : Hid (fewB ls most long = ls.all fun r => decide (r.2.1 ≤ long)) := by show _ = _; simp [fewB, hl]
    go_enter Tryd.func6, Tryd.ntmps6
    go_wp2_with fail
    go_loopw [7] (fun u wr => ∃ j : Nat, j ≤ ls.length ∧ u = .int .i64 j ∧ Hid ((ls.take j).all (fun r => decide (r.2.1 ≤ long)) = true) ∧ Below W.heap.size W wr) (fun u _ => ls.length - (intOf u).toNat)
    case atStart => exact ⟨0, Nat.zero_le _, rfl, (by rfl), Below.refl _ _⟩
    case round =>
      obtain ⟨j, hj, rfl, HT, hD⟩ := hrel
      have HD : Hid (Below W.heap.size W wr) := hD
      clear hD
      by_cases hlt : j < ls.length
      · obtain ⟨b, off, rfl, hb, cb⟩ := HR.out.cells j hlt
        have db := keepc HD.out cb
        have HS : Hid (ls.take (j + 1) = ls.take j ++ [ls.getD j (none, 0, 0)]) := by show _ = _; rw [List.take_succ_eq_append_getElem hlt]; simp [hlt]
        have HM : Hid (ls.getD j (none, 0, 0) ∈ ls) := by show _ ∈ _; rw [show ls.getD j (none, 0, 0) = ls[j] by simp [hlt]]; exact List.getElem_mem hlt
        clear cb
        generalize ls.getD j (none, 0, 0) = x at *
        by_cases hx : x.2.1 ≤ long
        · have h2 : ¬ (long : Int) < (x.2.1 : Int) := by omega
          go_wp2
          exact ⟨⟨j + 1, hlt, by simp, (by show _ = _; rw [HS.out, List.all_append, HT.out]; simp [hx]), HD.out⟩, by simp [intOf]; omega⟩
        · have h2 : (long : Int) < (x.2.1 : Int) := by omega
          go_wp2
          go_ret
          refine ⟨?_, HD.out⟩
          rw [HF.out, show (ls.all fun r => decide (r.2.1 ≤ long)) = false from by
            rw [List.all_eq_false]; exact ⟨x, HM.out, by simp [hx]⟩]
          rfl
      · obtain rfl : j = ls.length := by omega
        go_wp2
        go_ret
        refine ⟨?_, HD.out⟩
        have := HT.out
        rw [List.take_of_length_le (Nat.le_refl _)] at this
        rw [HF.out, this]
        rfl
  · have h1 : (most : Int) < (ls.length : Int) := by omega
    have HF : Hid (fewB ls most long = false) := by show _ = _; simp [fewB, hl]
    go_enter Tryd.func6, Tryd.ntmps6
    go_wp2
    go_ret
    exact ⟨by rw [HF.out]; rfl, by first | exact Below.refl _ _ | go_grown⟩
theorem size_nil : Ret 21 #[.pointer none] (.int .i64 0) := by
  intro W
  go_enter Tryd.func21, Tryd.ntmps21
  go_wp2
  go_ret
  exact ⟨rfl, by first | exact Below.refl _ _ | go_grown⟩
theorem hind_nil (v : Value) (n : Int) : Ret 20 #[.pointer none, .int .i64 0, v, .int .i64 n] (.int .i64 1) := by
  intro W
  go_enter Tryd.func20, Tryd.ntmps20
  go_wp2
  go_ret
  exact ⟨rfl, by first | exact Below.refl _ _ | go_grown⟩
set_option maxHeartbeats 1000000 in
theorem enc_nil (v : Value) : Ret 9 #[.pointer none, v] (.tuple #[.slice none 0 0, .int .i64 1]) := by
  intro W
  have H1 := size_nil
  have H2 := hind_nil v 0
  go_enter Tryd.func9, Tryd.ntmps9
  go_wp2_with (first | (go_at_call 21; refine (H1.go _).mono ?_; rintro e w1 ⟨rfl, hb1⟩) | (go_at_call 20; refine (H2.go _).mono ?_; rintro e w2 ⟨rfl, hb2⟩))
  refine bodyPost_ret (v := .tuple #[.slice none 0 0, .int .i64 1]) (by simp [results, Tryd.results9, go_sem]) rfl ⟨rfl, ?_⟩
  exact hb1.trans (hb2.mono hb1.size)
set_option maxHeartbeats 1000000 in
theorem wenc_nil (a : Option Addr) (cap : Nat) (ls : List (Option Addr × Nat × Nat)) (hn : ls.length ≤ 1000) (W : World) (hr : Grid W a ls) :
    Calls Tryd.prog 8 #[.pointer none, .slice a ls.length cap] W fun e w' => (∃ g, e = .returned (.tuple #[.slice g 0 0, .int .i64 (if ls.length = 0 then 0 else 1)])) ∧ Below W.heap.size W w' := by
  obtain ⟨i0, hi, hz0, hz1, hz2⟩ := info_row
  have HI : Hid (Tryd.prog.info? 25 = some i0 ∧ i0.zero = some (.slice none 0 0) ∧ i0.size = 1 ∧ i0.bytes = 24) := ⟨hi, hz0, hz1, hz2⟩
  have HR : Hid (Grid W a ls) := hr
  clear hi hz0 hz1 hz2 hr
  go_enter Tryd.func8, Tryd.ntmps8
  go_wp2_with (at_make; refine wpList_make_full _ rfl _ _ 24 rfl W.heap.size 25 i0 (.slice none 0 0) 1 Tryd.underlying24 HI.out.1 HI.out.2.1 HI.out.2.2.1 .i64 .i64 _ _ ls.length rfl rfl rfl rfl (by rw [HI.out.2.2.2]; omega) (by simp only [maxLen]; omega) (Nat.le_refl _) ?_; intro w2 own2 hgr2)
  have D : Hid (Below W.heap.size W w2) := (Below.refl _ _).grown hgr2 (Nat.le_refl _) (fun k hk => by cases hk)
  clear own2 hgr2 HI
  go_loopw [16] (fun u wr => u = .int .i64 0 ∧ w2 = wr) (fun _ _ => 0)
  case atStart => exact ⟨rfl, rfl⟩
  case round =>
    obtain ⟨rfl, rfl⟩ := hrel
    rcases Nat.eq_zero_or_pos ls.length with h0 | h0
    · have h1 : (ls.length : Int) = 0 := by omega
      go_wp2
      refine bodyPost_ret (v := .tuple #[.slice (some ⟨W.heap.size, 0, none⟩) 0 0, .int .i64 0]) (by simp [results, Tryd.results8, go_sem]) rfl ?_
      exact ⟨⟨_, rfl⟩, D.out⟩
    · have h1 : (0 : Int) < (ls.length : Int) := by omega
      obtain ⟨b, off, rfl, hb, cb⟩ := HR.out.cells 0 h0
      have db := keepc D.out cb
      rw [Nat.add_zero] at db
      clear cb
      generalize ls.getD 0 (none, 0, 0) = x at *
      have HE := enc_nil (.slice x.1 x.2.1 x.2.2)
      go_wp2_with (go_at_call 9; refine (HE.go _).mono ?_; rintro e w3 ⟨rfl, hb3⟩)
      refine bodyPost_ret (v := .tuple #[.slice none 0 0, .int .i64 1]) (by simp [results, Tryd.results8, go_sem]) rfl ?_
      exact ⟨⟨_, rfl⟩, D.out.trans (hb3.mono D.out.size)⟩
set_option maxHeartbeats 1000000 in
theorem wn_any (a : Option Addr) (cap : Nat) (ls : List (Option Addr × Nat × Nat)) (W : World) (hr : Grid W a ls) :
    Calls Tryd.prog 4 #[.slice a ls.length cap] W fun e w' => e = .returned (.bool true) ∧ Below W.heap.size W w' := by
  have HF := few_any a cap 8 40 ls (by decide) W hr
  have AW : Hid (Ret 7 #[] (.bool true)) := awake9
  have HR : Hid (Grid W a ls) := hr
  clear hr
  rcases hB : fewB ls 8 40 with _ | _
  · rw [hB] at HF
    go_enter Tryd.func4, Tryd.ntmps4
    go_wp2_with (first | (go_at_call 6; refine HF.mono ?_; rintro e w1 ⟨rfl, hb1⟩) | (go_at_call 7; refine (AW.out.go _).mono ?_; rintro e w2 ⟨rfl, hb2⟩))
    go_ret
    exact ⟨rfl, hb1.trans (hb2.mono hb1.size)⟩
  · rw [hB] at HF
    have hl : ls.length ≤ 8 := by unfold fewB at hB; simp at hB; exact hB.1
    have HE : Hid (∀ w, Below W.heap.size W w → Calls Tryd.prog 8 #[.pointer none, .slice a ls.length cap] w fun e w' => (∃ g, e = .returned (.tuple #[.slice g 0 0, .int .i64 (if ls.length = 0 then 0 else 1)])) ∧ Below w.heap.size w w') := fun w hb => wenc_nil a cap ls (by omega) w (HR.out.below hb)
    rcases Nat.eq_zero_or_pos ls.length with h0 | h0
    · rw [if_pos h0] at HE
      simp only [h0] at HE HF
      rw [h0]
      clear h0 hl HR hB
      go_enter Tryd.func4, Tryd.ntmps4
      go_wp2_with (first | (go_at_call 6; refine HF.mono ?_; rintro e w1 ⟨rfl, hb1⟩) | (go_at_call 8; refine (HE.out _ hb1).mono ?_; rintro e w2 ⟨⟨g, rfl⟩, hb2⟩) | (go_at_call 7; refine (AW.out.go _).mono ?_; rintro e w3 ⟨rfl, hb3⟩))
      go_ret
      have h2 := hb1.trans (hb2.mono hb1.size)
      exact ⟨rfl, h2.trans (hb3.mono h2.size)⟩
    · have h1 : ¬ (ls.length : Int) = 0 := by omega
      rw [if_neg (by omega)] at HE
      go_enter Tryd.func4, Tryd.ntmps4
      go_wp2_with (first | (go_at_call 6; refine HF.mono ?_; rintro e w1 ⟨rfl, hb1⟩) | (go_at_call 8; refine (HE.out _ hb1).mono ?_; rintro e w2 ⟨⟨g, rfl⟩, hb2⟩) | (go_at_call 7; refine (AW.out.go _).mono ?_; rintro e w3 ⟨rfl, hb3⟩))
      go_ret
      have h2 := hb1.trans (hb2.mono hb1.size)
      exact ⟨rfl, h2.trans (hb3.mono h2.size)⟩
end Go.Proofs.YtflkchhdgiojgaaDoor
